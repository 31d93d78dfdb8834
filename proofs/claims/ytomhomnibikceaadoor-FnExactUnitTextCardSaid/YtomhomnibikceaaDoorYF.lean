/-
  The lines of a unit's text, as the model makes them.
-/
import Derived.Test.YtomhomnibikceaaDoorYA
import Derived.Test.YtomhomnibikceaaDoorNF
import Derived.Deep.RegionHeld3
namespace Go.Proofs.YtomhomnibikceaaDoor
open Go.RowKit
set_option maxRecDepth 100000

/-- A block of its own kind, whole. -/
def Bw (w : World) (k : Nat) (T : TypeId) (cs : Array Value) : Prop := w.heap[k]? = some (.cells cs T (0, 0))
theorem Bw.new (w : World) (T : TypeId) (cs : Array Value) : Bw (w.alloc (.cells cs T)) w.heap.size T cs := by
  show (w.heap.push (.cells cs T (0, 0)))[w.heap.size]? = _
  simp
theorem Bw.lt {w : World} {k : Nat} {T : TypeId} {cs : Array Value} (h : Bw w k T cs) : k < w.heap.size := (Array.getElem?_eq_some_iff.1 h).1
theorem Bw.below {w w' : World} {k : Nat} {T : TypeId} {cs : Array Value} (h : Bw w k T cs) (hb : Below w.heap.size w w') : Bw w' k T cs := by
  unfold Bw at *
  rw [hb.block k (Bw.lt h), h]
theorem Bw.cell {w : World} {k : Nat} {T : TypeId} {cs : Array Value} (h : Bw w k T cs) (i : Nat) : w.cell? ⟨k, i, none⟩ = cs[i]? := by
  unfold World.cell?
  rw [show w.heap[(⟨k, i, none⟩ : Addr).block]? = w.heap[k]? from rfl, show w.heap[k]? = _ from h]
  rfl
theorem dec_sm (n : Int) (h : SmN n) (w : World) : Calls Tryd.prog 31 #[.int .i64 n] w (TxRet (Lib.itoa n) w) := by
  unfold SmN at h
  exact l30Dec_any64 n w (by omega) (by omega)
theorem tx_snoc (l : List UInt8) (x : UInt8) : tx l ++ ⟨#[x]⟩ = tx (l ++ [x]) := tx_app l [x]
set_option maxHeartbeats 2000000 in
theorem l7List_any (xs : List Int) (hx : ∀ x ∈ xs, SmN x) (A : Option Addr) (cap : Nat) (w : World) (hR : NumS w (Lt w.heap.size) xs A) (hn : xs.length ≤ 1048576) :
    Calls Tryd.prog 32 #[.slice A xs.length cap] w (TxRet (catT regT xs) w) := by
  have HR := Lib.hid hR
  have HX := Lib.hid hx
  clear hR hx
  go_enter Tryd.func32, Tryd.ntmps32
  go_wp2_with fail
  go_loopw [3, 4] (fun t i wr => ∃ k : Nat, k ≤ xs.length ∧ i = .int .i64 k ∧ t = .string (tx (catT regT (xs.take k))) ∧ Below w.heap.size w wr) (fun _ i _ => xs.length - (intOf i).toNat)
  case atStart => exact ⟨0, Nat.zero_le _, rfl, rfl, Below.refl _ _⟩
  case round =>
    obtain ⟨k, hk, rfl, rfl, hb⟩ := hrel
    by_cases hlt : k < xs.length
    · obtain ⟨bb, o, rfl, hB, c0⟩ := (HR.out.on hb hb.size).at_ hlt
      have hs : SmN xs[k] := HX.out _ (List.getElem_mem hlt)
      have hpre := regsT_le (l := xs.take k) (fun x h => HX.out x (List.mem_of_mem_take h))
      rw [List.length_take] at hpre
      have hz := tx_size (catT regT (xs.take k))
      have hi := itoaS hs
      have hz2 := tx_size (Lib.itoa xs[k])
      have HN := Lib.hid (show (tx (catT regT (xs.take k)) ++ ⟨#[32, 114]⟩) ++ tx (Lib.itoa xs[k]) = tx (catT regT (xs.take (k + 1))) from by
        rw [catT_take regT hlt, show (⟨#[32, 114]⟩ : ByteArray) = tx [32, 114] from rfl, tx_app, tx_app]
        congr 1
        rw [List.append_assoc]
        rfl)
      have C := Lib.hid (dec_sm xs[k] hs wr)
      unfold TxRet at C
      generalize tx (catT regT (xs.take k)) = t at *
      generalize tx (Lib.itoa xs[k]) = u at *
      generalize xs[k] = x at *
      have h1 : t.size ≤ 100000000 := by omega
      have h2 : u.size ≤ 20 := by omega
      clear hz hi hs hpre hz2
      go_wp2_with fail
      (with_reducible refine Calls.mono C.out ?_)
      rintro ee w1 ⟨rfl, hb1⟩
      have hb2 := hb.trans (hb1.mono hb.size)
      go_wp2_with fail
      go_roundw
      case rel => exact ⟨k + 1, by omega, by go_num, by rw [HN.out], hb2⟩
      case measure => simp only [intOf]; omega
    · obtain rfl : k = xs.length := by omega
      rw [List.take_length]
      go_wp2_with fail
      go_ret
      exact ⟨rfl, hb⟩
set_option maxHeartbeats 4000000 in
theorem l7Word_any (op : Int) (h : 1 ≤ op ∧ op ≤ 14) (w : World) :
    Calls Tryd.prog 51 #[.int .i64 op] w fun e w' => e = .returned (.string (iName op)) ∧ Below w.heap.size w w' := by
  have hc : op = 1 ∨ op = 2 ∨ op = 3 ∨ op = 4 ∨ op = 5 ∨ op = 6 ∨ op = 7 ∨ op = 8 ∨ op = 9 ∨ op = 10 ∨ op = 11 ∨ op = 12 ∨ op = 13 ∨ op = 14 := by omega
  clear h
  rcases hc with rfl | rfl | rfl | rfl | rfl | rfl | rfl | rfl | rfl | rfl | rfl | rfl | rfl | rfl
  all_goals go_enter Tryd.func51, Tryd.ntmps51
  all_goals go_wp2
  all_goals go_ret
  all_goals exact ⟨rfl, (Below.refl _ _).alloc (Nat.le_refl _) _⟩
theorem iTells_eq (op : Int) (h : 1 ≤ op ∧ op ≤ 14) : iTells op = (op == 1 || op == 14) := by
  have hc : op = 1 ∨ op = 2 ∨ op = 3 ∨ op = 4 ∨ op = 5 ∨ op = 6 ∨ op = 7 ∨ op = 8 ∨ op = 9 ∨ op = 10 ∨ op = 11 ∨ op = 12 ∨ op = 13 ∨ op = 14 := by omega
  rcases hc with rfl | rfl | rfl | rfl | rfl | rfl | rfl | rfl | rfl | rfl | rfl | rfl | rfl | rfl <;> decide +kernel
set_option maxHeartbeats 4000000 in
theorem l7Line_any (x : Ik) (hp : OkIk x) (v : Value) (w : World) (hV : IkV w (Lt w.heap.size) x v) (hn : x.args.length ≤ 1048576) :
    Calls Tryd.prog 33 #[v] w (TxRet (insTx x) w) := by
  obtain ⟨A, c, rfl, hR⟩ := hV
  have K0 := Lib.hid (Bw.new w 62 #[.int .i64 x.op, .int .i64 x.to, .slice A x.args.length c, .int .i64 x.n])
  have hb0 := (Below.refl w.heap.size w).alloc (Nat.le_refl _) (.cells #[.int .i64 x.op, .int .i64 x.to, .slice A x.args.length c, .int .i64 x.n] 62)
  have LW := Lib.hid (l7Word_any x.op hp.op (w.alloc (.cells #[.int .i64 x.op, .int .i64 x.to, .slice A x.args.length c, .int .i64 x.n] 62)))
  have LM := fun W => l7Makes_any x.op W
  have LL := fun W (h : Below w.heap.size w W) => Lib.hid (l7List_any x.args hp.args A c W (hR.on h h.size) hn)
  have LT := fun W => Lib.hid (dec_sm x.to hp.to W)
  have LN := fun W => Lib.hid (dec_sm x.n hp.n W)
  have z1 := tx_size (Lib.itoa x.to)
  have z2 := tx_size (Lib.itoa x.n)
  have z3 := tx_size (catT regT x.args)
  have z4 := tx_size (iNm x.op)
  have y1 := itoaS hp.to
  have y2 := itoaS hp.n
  have y3 := regsT_le hp.args
  have y4 := iNm_le x.op
  have HNM := Lib.hid (show iName x.op = tx (iNm x.op) from rfl)
  have z5 : (iName x.op).size = (tx (iNm x.op)).size := by rw [HNM.out]
  have hte := iTells_eq x.op hp.op
  have HLAST := Lib.hid (show insTx x = (if iMakes x.op then 114 :: (Lib.itoa x.to ++ [32, 61, 32]) else []) ++ (iNm x.op ++ ((if iTells x.op then 32 :: Lib.itoa x.n else []) ++ (catT regT x.args ++ [10]))) from rfl)
  have HJ := Lib.hid (show ∀ a b d e : List UInt8, tx a ++ tx b ++ tx d ++ tx e = tx (a ++ (b ++ (d ++ e))) from fun a b d e => by rw [tx_app, tx_app, tx_app]; congr 1; simp)
  have hk0 := show (w.alloc (.cells #[.int .i64 x.op, .int .i64 x.to, .slice A x.args.length c, .int .i64 x.n] 62)).cell? ⟨w.heap.size, 0, none⟩ = some (.int .i64 x.op) from (K0.out.cell 0).trans rfl
  unfold TxRet at LL LT LN
  have HS : Hid ((tx (Lib.itoa x.to)).size ≤ 20 ∧ (tx (Lib.itoa x.n)).size ≤ 20 ∧ (tx (catT regT x.args)).size ≤ 100000000 ∧ (iName x.op).size ≤ 4) := Lib.hid ⟨by omega, by omega, by omega, by omega⟩
  have HT1 := Lib.hid (show tx (Lib.itoa x.to) = tx (Lib.itoa x.to) from rfl)
  obtain ⟨tt, ett⟩ : ∃ t, t = tx (Lib.itoa x.to) := ⟨_, rfl⟩
  obtain ⟨tn, etn⟩ : ∃ t, t = tx (Lib.itoa x.n) := ⟨_, rfl⟩
  obtain ⟨tl, etl⟩ : ∃ t, t = tx (catT regT x.args) := ⟨_, rfl⟩
  rw [← ett] at LT HS
  rw [← etn] at LN HS
  rw [← etl] at LL HS
  have ET := Lib.hid ett
  have EN := Lib.hid etn
  have EL := Lib.hid etl
  clear ett etn etl z1 z2 z3 z4 z5 y1 y2 y3 y4 HT1
  generalize iName x.op = nm at *
  obtain ⟨s1, s2, s3, s4⟩ := HS.out
  clear HS hR
  by_cases hm : iMakes x.op = true
  · have HMK := Lib.hid hm
    simp only [hm] at LM
    replace LM := fun W => Lib.hid (LM W)
    by_cases h1 : x.op = 1
    · have e1 : (x.op == 1) = true := beq_yes h1
      have HTL := Lib.hid (show iTells x.op = true by rw [hte, e1]; rfl)
      clear hm h1 hte
      go_enter Tryd.func33, Tryd.ntmps33
      go_wp2_with fail
      generalize w.alloc (.cells #[.int .i64 x.op, .int .i64 x.to, .slice A x.args.length c, .int .i64 x.n] 62) = w0 at *
      (with_reducible refine Calls.mono LW.out ?_)
      rintro ee w1 ⟨rfl, hb1⟩
      have hb_1 := hb0.trans (hb1.mono hb0.size)
      have K1 := Lib.hid (K0.out.below hb1)
      clear hk0 hb1 LW K0
      have k1_0 := show w1.cell? ⟨w.heap.size, 0, none⟩ = some (.int .i64 x.op) from (K1.out.cell 0).trans rfl
      have k1_1 := show w1.cell? ⟨w.heap.size, 1, none⟩ = some (.int .i64 x.to) from (K1.out.cell 1).trans rfl
      have k1_2 := show w1.cell? ⟨w.heap.size, 2, none⟩ = some (.slice A x.args.length c) from (K1.out.cell 2).trans rfl
      have k1_3 := show w1.cell? ⟨w.heap.size, 3, none⟩ = some (.int .i64 x.n) from (K1.out.cell 3).trans rfl
      go_wp2_with fail
      (with_reducible refine Calls.mono (LM _).out ?_)
      rintro ee w1' ⟨rfl, rfl⟩
      go_wp2_with fail
      (with_reducible refine Calls.mono (LT _).out ?_)
      rintro ee w2 ⟨rfl, hbn⟩
      have hb_2 := hb_1.trans (hbn.mono hb_1.size)
      have K2 := Lib.hid (K1.out.below hbn)
      clear hbn k1_0 k1_1 k1_2 k1_3 K1
      have k2_0 := show w2.cell? ⟨w.heap.size, 0, none⟩ = some (.int .i64 x.op) from (K2.out.cell 0).trans rfl
      have k2_1 := show w2.cell? ⟨w.heap.size, 1, none⟩ = some (.int .i64 x.to) from (K2.out.cell 1).trans rfl
      have k2_2 := show w2.cell? ⟨w.heap.size, 2, none⟩ = some (.slice A x.args.length c) from (K2.out.cell 2).trans rfl
      have k2_3 := show w2.cell? ⟨w.heap.size, 3, none⟩ = some (.int .i64 x.n) from (K2.out.cell 3).trans rfl
      go_wp2_with fail
      (with_reducible refine Calls.mono (LN _).out ?_)
      rintro ee w3 ⟨rfl, hbn⟩
      have hb_3 := hb_2.trans (hbn.mono hb_2.size)
      have K3 := Lib.hid (K2.out.below hbn)
      clear hbn k2_0 k2_1 k2_2 k2_3 K2
      have k3_0 := show w3.cell? ⟨w.heap.size, 0, none⟩ = some (.int .i64 x.op) from (K3.out.cell 0).trans rfl
      have k3_1 := show w3.cell? ⟨w.heap.size, 1, none⟩ = some (.int .i64 x.to) from (K3.out.cell 1).trans rfl
      have k3_2 := show w3.cell? ⟨w.heap.size, 2, none⟩ = some (.slice A x.args.length c) from (K3.out.cell 2).trans rfl
      have k3_3 := show w3.cell? ⟨w.heap.size, 3, none⟩ = some (.int .i64 x.n) from (K3.out.cell 3).trans rfl
      have LL1 := Lib.hid (LL w3 hb_3).out
      go_wp2_with fail
      (with_reducible refine Calls.mono LL1.out ?_)
      rintro ee w4 ⟨rfl, hbn⟩
      have hbf := hb_3.trans (hbn.mono hb_3.size)
      go_wp2_with fail
      go_ret
      have hmk := HMK.out
      have htl := HTL.out
      refine ⟨?_, hbf⟩
      rw [HLAST.out, hmk, htl]
      show Ending.returned (.string _) = _
      congr 2
      rw [EL.out, HNM.out, ET.out, EN.out, show (⟨#[10]⟩ : ByteArray) = tx [10] from rfl, show (⟨#[114]⟩ : ByteArray) = tx [114] from rfl, show (⟨#[32, 61, 32]⟩ : ByteArray) = tx [32, 61, 32] from rfl, show (⟨#[32]⟩ : ByteArray) = tx [32] from rfl]
      simp only [tx_app]
      congr 1
      simp
    by_cases h14 : x.op = 14
    · have e1 : (x.op == 1) = false := beq_no h1
      have e14 : (x.op == 14) = true := beq_yes h14
      have HTL := Lib.hid (show iTells x.op = true by rw [hte, e1, e14]; rfl)
      clear hm h1 h14 hte
      go_enter Tryd.func33, Tryd.ntmps33
      go_wp2_with fail
      generalize w.alloc (.cells #[.int .i64 x.op, .int .i64 x.to, .slice A x.args.length c, .int .i64 x.n] 62) = w0 at *
      (with_reducible refine Calls.mono LW.out ?_)
      rintro ee w1 ⟨rfl, hb1⟩
      have hb_1 := hb0.trans (hb1.mono hb0.size)
      have K1 := Lib.hid (K0.out.below hb1)
      clear hk0 hb1 LW K0
      have k1_0 := show w1.cell? ⟨w.heap.size, 0, none⟩ = some (.int .i64 x.op) from (K1.out.cell 0).trans rfl
      have k1_1 := show w1.cell? ⟨w.heap.size, 1, none⟩ = some (.int .i64 x.to) from (K1.out.cell 1).trans rfl
      have k1_2 := show w1.cell? ⟨w.heap.size, 2, none⟩ = some (.slice A x.args.length c) from (K1.out.cell 2).trans rfl
      have k1_3 := show w1.cell? ⟨w.heap.size, 3, none⟩ = some (.int .i64 x.n) from (K1.out.cell 3).trans rfl
      go_wp2_with fail
      (with_reducible refine Calls.mono (LM _).out ?_)
      rintro ee w1' ⟨rfl, rfl⟩
      go_wp2_with fail
      (with_reducible refine Calls.mono (LT _).out ?_)
      rintro ee w2 ⟨rfl, hbn⟩
      have hb_2 := hb_1.trans (hbn.mono hb_1.size)
      have K2 := Lib.hid (K1.out.below hbn)
      clear hbn k1_0 k1_1 k1_2 k1_3 K1
      have k2_0 := show w2.cell? ⟨w.heap.size, 0, none⟩ = some (.int .i64 x.op) from (K2.out.cell 0).trans rfl
      have k2_1 := show w2.cell? ⟨w.heap.size, 1, none⟩ = some (.int .i64 x.to) from (K2.out.cell 1).trans rfl
      have k2_2 := show w2.cell? ⟨w.heap.size, 2, none⟩ = some (.slice A x.args.length c) from (K2.out.cell 2).trans rfl
      have k2_3 := show w2.cell? ⟨w.heap.size, 3, none⟩ = some (.int .i64 x.n) from (K2.out.cell 3).trans rfl
      go_wp2_with fail
      (with_reducible refine Calls.mono (LN _).out ?_)
      rintro ee w3 ⟨rfl, hbn⟩
      have hb_3 := hb_2.trans (hbn.mono hb_2.size)
      have K3 := Lib.hid (K2.out.below hbn)
      clear hbn k2_0 k2_1 k2_2 k2_3 K2
      have k3_0 := show w3.cell? ⟨w.heap.size, 0, none⟩ = some (.int .i64 x.op) from (K3.out.cell 0).trans rfl
      have k3_1 := show w3.cell? ⟨w.heap.size, 1, none⟩ = some (.int .i64 x.to) from (K3.out.cell 1).trans rfl
      have k3_2 := show w3.cell? ⟨w.heap.size, 2, none⟩ = some (.slice A x.args.length c) from (K3.out.cell 2).trans rfl
      have k3_3 := show w3.cell? ⟨w.heap.size, 3, none⟩ = some (.int .i64 x.n) from (K3.out.cell 3).trans rfl
      have LL1 := Lib.hid (LL w3 hb_3).out
      go_wp2_with fail
      (with_reducible refine Calls.mono LL1.out ?_)
      rintro ee w4 ⟨rfl, hbn⟩
      have hbf := hb_3.trans (hbn.mono hb_3.size)
      go_wp2_with fail
      go_ret
      have hmk := HMK.out
      have htl := HTL.out
      refine ⟨?_, hbf⟩
      rw [HLAST.out, hmk, htl]
      show Ending.returned (.string _) = _
      congr 2
      rw [EL.out, HNM.out, ET.out, EN.out, show (⟨#[10]⟩ : ByteArray) = tx [10] from rfl, show (⟨#[114]⟩ : ByteArray) = tx [114] from rfl, show (⟨#[32, 61, 32]⟩ : ByteArray) = tx [32, 61, 32] from rfl, show (⟨#[32]⟩ : ByteArray) = tx [32] from rfl]
      simp only [tx_app]
      congr 1
      simp
    · have e1 : (x.op == 1) = false := beq_no h1
      have e14 : (x.op == 14) = false := beq_no h14
      have HTL := Lib.hid (show iTells x.op = false by rw [hte, e1, e14]; rfl)
      clear hm h1 h14 hte
      go_enter Tryd.func33, Tryd.ntmps33
      go_wp2_with fail
      generalize w.alloc (.cells #[.int .i64 x.op, .int .i64 x.to, .slice A x.args.length c, .int .i64 x.n] 62) = w0 at *
      (with_reducible refine Calls.mono LW.out ?_)
      rintro ee w1 ⟨rfl, hb1⟩
      have hb_1 := hb0.trans (hb1.mono hb0.size)
      have K1 := Lib.hid (K0.out.below hb1)
      clear hk0 hb1 LW K0
      have k1_0 := show w1.cell? ⟨w.heap.size, 0, none⟩ = some (.int .i64 x.op) from (K1.out.cell 0).trans rfl
      have k1_1 := show w1.cell? ⟨w.heap.size, 1, none⟩ = some (.int .i64 x.to) from (K1.out.cell 1).trans rfl
      have k1_2 := show w1.cell? ⟨w.heap.size, 2, none⟩ = some (.slice A x.args.length c) from (K1.out.cell 2).trans rfl
      have k1_3 := show w1.cell? ⟨w.heap.size, 3, none⟩ = some (.int .i64 x.n) from (K1.out.cell 3).trans rfl
      go_wp2_with fail
      (with_reducible refine Calls.mono (LM _).out ?_)
      rintro ee w1' ⟨rfl, rfl⟩
      go_wp2_with fail
      (with_reducible refine Calls.mono (LT _).out ?_)
      rintro ee w2 ⟨rfl, hbn⟩
      have hb_2 := hb_1.trans (hbn.mono hb_1.size)
      have K2 := Lib.hid (K1.out.below hbn)
      clear hbn k1_0 k1_1 k1_2 k1_3 K1
      have k2_0 := show w2.cell? ⟨w.heap.size, 0, none⟩ = some (.int .i64 x.op) from (K2.out.cell 0).trans rfl
      have k2_1 := show w2.cell? ⟨w.heap.size, 1, none⟩ = some (.int .i64 x.to) from (K2.out.cell 1).trans rfl
      have k2_2 := show w2.cell? ⟨w.heap.size, 2, none⟩ = some (.slice A x.args.length c) from (K2.out.cell 2).trans rfl
      have k2_3 := show w2.cell? ⟨w.heap.size, 3, none⟩ = some (.int .i64 x.n) from (K2.out.cell 3).trans rfl
      have LL1 := Lib.hid (LL w2 hb_2).out
      go_wp2_with fail
      (with_reducible refine Calls.mono LL1.out ?_)
      rintro ee w3 ⟨rfl, hbn⟩
      have hbf := hb_2.trans (hbn.mono hb_2.size)
      go_wp2_with fail
      go_ret
      have hmk := HMK.out
      have htl := HTL.out
      refine ⟨?_, hbf⟩
      rw [HLAST.out, hmk, htl]
      show Ending.returned (.string _) = _
      congr 2
      rw [EL.out, HNM.out, ET.out, show (⟨#[10]⟩ : ByteArray) = tx [10] from rfl, show (⟨#[114]⟩ : ByteArray) = tx [114] from rfl, show (⟨#[32, 61, 32]⟩ : ByteArray) = tx [32, 61, 32] from rfl]
      simp only [tx_app]
      congr 1
      simp
  · have hm' : iMakes x.op = false := by simpa using hm
    have h1 : x.op ≠ 1 := fun h => hm (by rw [h]; decide)
    have h14 : x.op ≠ 14 := fun h => hm (by rw [h]; decide)
    have HMK := Lib.hid hm'
    simp only [hm'] at LM
    replace LM := fun W => Lib.hid (LM W)
    have e1 : (x.op == 1) = false := beq_no h1
    have e14 : (x.op == 14) = false := beq_no h14
    have HTL := Lib.hid (show iTells x.op = false by rw [hte, e1, e14]; rfl)
    clear hm hm' h1 h14 hte
    go_enter Tryd.func33, Tryd.ntmps33
    go_wp2_with fail
    generalize w.alloc (.cells #[.int .i64 x.op, .int .i64 x.to, .slice A x.args.length c, .int .i64 x.n] 62) = w0 at *
    (with_reducible refine Calls.mono LW.out ?_)
    rintro ee w1 ⟨rfl, hb1⟩
    have hb_1 := hb0.trans (hb1.mono hb0.size)
    have K1 := Lib.hid (K0.out.below hb1)
    clear hk0 hb1 LW K0
    have k1_0 := show w1.cell? ⟨w.heap.size, 0, none⟩ = some (.int .i64 x.op) from (K1.out.cell 0).trans rfl
    have k1_1 := show w1.cell? ⟨w.heap.size, 1, none⟩ = some (.int .i64 x.to) from (K1.out.cell 1).trans rfl
    have k1_2 := show w1.cell? ⟨w.heap.size, 2, none⟩ = some (.slice A x.args.length c) from (K1.out.cell 2).trans rfl
    have k1_3 := show w1.cell? ⟨w.heap.size, 3, none⟩ = some (.int .i64 x.n) from (K1.out.cell 3).trans rfl
    go_wp2_with fail
    (with_reducible refine Calls.mono (LM _).out ?_)
    rintro ee w1' ⟨rfl, rfl⟩
    have LL1 := Lib.hid (LL w1 hb_1).out
    go_wp2_with fail
    (with_reducible refine Calls.mono LL1.out ?_)
    rintro ee w2 ⟨rfl, hbn⟩
    have hbf := hb_1.trans (hbn.mono hb_1.size)
    go_wp2_with fail
    go_ret
    have hmk := HMK.out
    have htl := HTL.out
    refine ⟨?_, hbf⟩
    rw [HLAST.out, hmk, htl]
    show Ending.returned (.string _) = _
    congr 2
    rw [EL.out, HNM.out, show (⟨#[10]⟩ : ByteArray) = tx [10] from rfl]
    simp only [tx_app]
    congr 1
    simp
end Go.Proofs.YtomhomnibikceaaDoor
