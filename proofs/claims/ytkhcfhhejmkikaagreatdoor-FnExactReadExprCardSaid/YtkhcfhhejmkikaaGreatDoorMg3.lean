/-
  PlainText: the model's and the program's return the same; the law's walk.
-/
import Derived.Test.YtkhcfhhejmkikaaGreatDoorMg2
import Derived.Lib.Join
import Derived.Deep.DeepCutAuto
import Derived.Deep.CutBlock
namespace Go.Proofs.YtkhcfhhejmkikaaGreatDoor
open Go.RowKit
set_option maxRecDepth 100000

theorem keyB_size : ∀ k, k < 9 → (keyB k).size ≤ 4 := by decide +kernel
theorem validB_size {n : Int} {s : ByteArray} (h : validB n s = true) : s.size ≤ 4 := by
  unfold validB at h
  split at h
  · unfold nameB at h
    simp only [Bool.and_eq_true, decide_eq_true_eq] at h
    exact h.1.2
  · split at h
    · rw [decide_eq_true_eq] at h
      unfold numB at h
      split at h
      · rename_i hc
        have := canon_len hc.1 hc.2
        simp at this
        omega
      · omega
    · split at h
      · unfold signB at h
        split at h
        · omega
        · cases h
      · split at h
        · obtain ⟨k, hk, rfl⟩ := (isKeyB_iff s).1 h
          exact keyB_size k hk
        · cases h

/-- The texts of words with a space between. -/
def joinB (ws : List (Int × ByteArray)) : List UInt8 := Lib.join (ws.map (·.2.data.toList)) [32]
theorem joinB_nil : joinB [] = [] := rfl
theorem join_snoc (x : List UInt8) (l : List (List UInt8)) (y : List UInt8) : Lib.join (x :: l ++ [y]) [32] = Lib.join (x :: l) [32] ++ (32 :: y) := by
  rw [List.cons_append, Lib.join_cons, Lib.join_cons]
  simp [Lib.joinTail]
theorem joinB_first {ws : List (Int × ByteArray)} (h : 0 < ws.length) : joinB (ws.take 1) = ws[0].2.data.toList := by
  cases ws with
  | nil => simp at h
  | cons x l => simp [joinB, Lib.join_one]
theorem joinB_next {ws : List (Int × ByteArray)} {k : Nat} (h : k < ws.length) (hk : 0 < k) : joinB (ws.take (k + 1)) = joinB (ws.take k) ++ (32 :: ws[k].2.data.toList) := by
  unfold joinB
  rw [List.take_succ_eq_append_getElem h, List.map_append]
  cases hw : (ws.take k).map (·.2.data.toList) with
  | nil =>
    exfalso
    have := congrArg List.length hw
    rw [List.length_map, List.length_take, List.length_nil] at this
    omega
  | cons x l => exact join_snoc x l _
/-- The first k words are valid. -/
def validTo (ws : List (Int × ByteArray)) (k : Nat) : Prop := ∀ j, (h : j < ws.length) → j < k → validB ws[j].1 ws[j].2 = true
theorem validTo_succ {ws : List (Int × ByteArray)} {k : Nat} (h : validTo ws k) (hk : k < ws.length) (hv : validB ws[k].1 ws[k].2 = true) : validTo ws (k + 1) := by
  intro j hj hjk
  by_cases e : j = k
  · subst e; exact hv
  · exact h j hj (by omega)
theorem joinB_len {ws : List (Int × ByteArray)} : ∀ (k : Nat), k ≤ ws.length → validTo ws k → (joinB (ws.take k)).length ≤ 5 * k
  | 0, _, _ => by simp [joinB_nil]
  | k + 1, hk, h => by
    have hv := validB_size (h k (by omega) (by omega))
    have ih := joinB_len k (by omega) (fun j hj hjk => h j hj (by omega))
    by_cases h0 : k = 0
    · subst h0
      rw [joinB_first (by omega)]
      have e : ws[0].2.data.toList.length = ws[0].2.size := by simp
      rw [e]
      omega
    · rw [joinB_next (by omega) (by omega), List.length_append, List.length_cons]
      have e : ws[k].2.data.toList.length = ws[k].2.size := by simp
      rw [e]
      omega
open Classical in
/-- What JoinWords returns. -/
noncomputable def joinF (ws : List (Int × ByteArray)) : ByteArray × Bool :=
  if ws.length ≤ 600 ∧ validTo ws ws.length then (⟨(joinB ws).toArray⟩, true) else (⟨#[]⟩, false)
theorem joinF_yes {ws : List (Int × ByteArray)} (h : ws.length ≤ 600) (hv : validTo ws ws.length) : joinF ws = (⟨(joinB ws).toArray⟩, true) := by unfold joinF; rw [if_pos ⟨h, hv⟩]
theorem joinF_long {ws : List (Int × ByteArray)} (h : 600 < ws.length) : joinF ws = (⟨#[]⟩, false) := by unfold joinF; rw [if_neg (fun h' => by omega)]
theorem joinF_bad {ws : List (Int × ByteArray)} {k : Nat} (hk : k < ws.length) (hv : validB ws[k].1 ws[k].2 = false) : joinF ws = (⟨#[]⟩, false) := by
  unfold joinF; rw [if_neg]
  rintro ⟨_, h⟩
  rw [h k hk hk] at hv; cases hv
/-- Two results: a text and a flag; new blocks at most. -/
def TextRet (p : ByteArray × Bool) (w : World) (e : Ending) (w' : World) : Prop := e = .returned (.tuple #[.string p.1, .bool p.2]) ∧ Below w.heap.size w w'


theorem stringInfo : (Tryz.prog.info? 9).map (fun i => (i.zero, i.size, i.bytes)) = some (some (.string ⟨#[]⟩), 1, 16) := by kernel_rfl
theorem new_text (w : World) (s : ByteArray) : ∀ (j : Nat) u, [Value.string s][j]? = some u → (w.alloc (.cells #[.string s] 9)).cell? ((⟨w.heap.size, 0, none⟩ : Addr).add j) = some u := by
  intro j u hu
  match j, hu with
  | 0, hu =>
    have : (⟨w.heap.size, 0, none⟩ : Addr).add 0 = ⟨w.heap.size, 0, none⟩ := rfl
    rw [this, alloc_cell]
    exact hu
  | j + 1, hu => simp at hu
/-- The cells of the first k texts. -/
def textCells (ws : List (Int × ByteArray)) (k : Nat) : List Value := (ws.take k).map fun x => Value.string x.2
theorem textCells_succ {ws : List (Int × ByteArray)} {k : Nat} (h : k < ws.length) : textCells ws (k + 1) = textCells ws k ++ [.string ws[k].2] := by
  unfold textCells; rw [List.take_succ_eq_append_getElem h, List.map_append]; rfl

set_option maxHeartbeats 2000000 in
theorem implJoinWords_any (A : Option Addr) (ws : List (Int × ByteArray)) (cap : Nat) (w : World) (hW : Words w w.heap.size A ws) (hs : ∀ x ∈ ws, x.2.size ≤ 1048576) (hn : ws.length ≤ 1048576) (T : Tabs w) (N : NTabs w) :
    Calls Tryz.prog 36 #[.slice A ws.length cap] w (TextRet (joinF ws) w) := by
  by_cases hlong : 600 < ws.length
  · rw [joinF_long hlong]
    go_enter Tryz.func36, Tryz.ntmps36
    go_wp2
    go_ret2
    exact ⟨rfl, Below.refl _ _⟩
  have hle : ws.length ≤ 600 := by omega
  clear hlong
  have HS := Lib.hid hs
  clear hs
  obtain ⟨i0, hi, hz0, hz1, hz2⟩ := info_parts stringInfo
  go_enter Tryz.func36, Tryz.ntmps36
  go_wp2_with (with_reducible refine wpList_make_own _ rfl _ _ 72 rfl w.heap.size 9 i0 (.string ⟨#[]⟩) 1 Tryz.underlying72 hi hz0 hz1 _ _ _ ws.length rfl rfl rfl ?c1 ?c2 ?c3 ?_)
  case c1 => rw [hz2]; omega
  case c2 => unfold maxLen; omega
  case c3 => exact Nat.le_refl _
  intro w1 hown hgrow
  have hb0 : Below w.heap.size w w1 := (Below.refl _ _).grown hgrow (Nat.le_refl _) (fun k e => by cases e)
  have HO0 := Lib.hid hown
  clear hgrow hown
  go_wp2
  go_loopw [4, 16] (fun v i wr => ∃ (k : Nat), k ≤ ws.length ∧ i = .int .i64 k ∧ v = .slice (some ⟨w.heap.size, 0, none⟩) k ws.length ∧ wr.ownsRow w.heap.size 9 1 (.slice (some ⟨w.heap.size, 0, none⟩) k ws.length) k (textCells ws k) ∧ validTo ws k ∧ Below w.heap.size w wr) (fun _ i _ => ws.length - (intOf i).toNat)
  case atStart => exact ⟨0, Nat.zero_le _, rfl, rfl, HO0.out, fun j _ hj => absurd hj (by omega), hb0⟩
  case round =>
    clear HO0 hb0
    obtain ⟨k, hk, rfl, rfl, hown, hv, hb⟩ := hrel
    by_cases hlt : k < ws.length
    · obtain ⟨b, o, rfl, hB, hc1, hc2⟩ := (hW.below hb).at_ hlt
      have hsz := HS.out _ (List.getElem_mem hlt)
      have TB := fun W h => T.below (w' := W) h
      have NB := fun W h => N.below (w' := W) h
      have SV := fun W h1 h2 => Lib.hid (implWordValid_any ws[k].1 ws[k].2 W hsz h1 h2)
      have HO := Lib.hid hown
      clear hown
      cases hval : validB ws[k].1 ws[k].2
      · have hbad := Lib.hid (joinF_bad hlt hval)
        rw [hval] at SV
        clear hval
        generalize ws[k].1 = n1 at *
        generalize ws[k].2 = s1 at *
        have hb1 := hb.alloc hb.size (.cells #[.int .i64 n1, .string s1] 76)
        go_wp2_with fail
        refine (SV _ (TB _ hb1) (NB _ hb1)).out.mono ?_
        rintro e w2 ⟨rfl, hb2⟩
        have hb3 := hb1.trans (hb2.mono hb1.size)
        clear hb hb1 hb2 TB NB
        go_wp2
        go_ret2
        rw [hbad.out]
        exact ⟨rfl, hb3⟩
      · have HV := Lib.hid (validTo_succ hv hlt hval)
        have HT := Lib.hid (textCells_succ hlt)
        rw [hval] at SV
        clear hval hv
        generalize ws[k].1 = n1 at *
        generalize ws[k].2 = s1 at *
        have hb1 := hb.alloc hb.size (.cells #[.int .i64 n1, .string s1] 76)
        have hown1 := HO.out.alloc (.cells #[.int .i64 n1, .string s1] 76)
        have hcl := alloc_cell wr #[.int .i64 n1, .string s1] 76 (0, 0) 1
        have HO1 := Lib.hid hown1
        have HCL := Lib.hid hcl
        clear hcl hown1
        go_wp2_with fail
        refine (SV _ (TB _ hb1) (NB _ hb1)).out.mono ?_
        rintro e w2 ⟨rfl, hb2⟩
        have g2 : w2.cell? ⟨wr.heap.size, 1, none⟩ = some (.string s1) := (hb2.cell (p := ⟨wr.heap.size, 1, none⟩) (by simp)).trans HCL.out
        have HO2 := Lib.hid (HO1.out.kept (w' := w2) (row := none) ⟨hb2.os, hb2.tape, hb2.output, hb2.size, fun i hi _ => hb2.block i hi⟩ (by simp [Value.ownBlock]))
        have hb3 := hb1.trans (hb2.mono hb1.size)
        clear hb hb1 hb2 TB NB hc1 hc2
        have HNW := Lib.hid (new_text w2 s1)
        have HOC := Lib.hid (show ∀ u ∈ [Value.string s1], u.oneCell' = true by intro u hu; simp at hu; subst hu; rfl)
        go_wp2_with (at_builtin; refine wpList_append_fits _ rfl _ _ 72 rfl w.heap.size 9 i0 1 Tryz.underlying72 hi hz1 w.heap.size k ws.length (textCells ws k) rfl (HO2.out.alloc _) ⟨w2.heap.size, 0, none⟩ 1 1 [.string s1] rfl rfl HNW.out HOC.out (by omega) ?_; intro w3 hown3 hgrow3)
        have hb4 : Below w.heap.size w w3 := (hb3.alloc hb3.size _).grown hgrow3 (Nat.le_trans hb3.size (by simp)) (fun k e => by cases e; exact Nat.le_refl _)
        have HO3 := Lib.hid hown3
        clear hb3 hgrow3 hown3
        go_wp2
        go_roundw
        case rel => exact ⟨k + 1, by omega, by go_num, rfl, by rw [HT.out]; exact HO3.out, HV.out, hb4⟩
        case measure => simp only [intOf]; omega
    · obtain rfl : k = ws.length := by omega
      have hcells : ∀ (j : Nat) x, (ws.map (·.2))[j]? = some x → wr.cell? ⟨w.heap.size, 0 + j, none⟩ = some (.string x) := by
        intro j x hx
        have hj : j < ws.length := by
          rcases Nat.lt_or_ge j ws.length with h | h
          · exact h
          · rw [List.getElem?_eq_none (by simpa using h)] at hx; cases hx
        rw [Nat.zero_add, hown.cellAt j (by omega)]
        unfold textCells
        rw [List.take_of_length_le (Nat.le_refl _), List.getElem?_map, List.getElem?_eq_getElem hj]
        rw [List.getElem?_map, List.getElem?_eq_getElem hj] at hx
        cases hx
        rfl
      have hjl := joinB_len ws.length (Nat.le_refl _) hv
      rw [List.take_of_length_le (Nat.le_refl _)] at hjl
      have hmm : Lib.join ((ws.map (·.2)).map (·.data.toList)) (⟨#[32]⟩ : ByteArray).data.toList = joinB ws := by
        unfold joinB; rw [List.map_map]; rfl
      have SJ := Tryz.strings_Join w.heap.size 0 ws.length (ws.map (·.2)) ⟨#[32]⟩ wr hcells (hown.lt _ rfl).2 (by simp; omega) (by simp) (by rw [hmm]; omega)
      rw [hmm, List.length_map] at SJ
      have HF := Lib.hid (joinF_yes hle hv)
      have hsz : (⟨(joinB ws).toArray⟩ : ByteArray).size ≤ 3000 := by show (joinB ws).toArray.size ≤ 3000; simp; omega
      generalize (⟨(joinB ws).toArray⟩ : ByteArray) = out at *
      have SJ' := Lib.hid SJ
      clear SJ hcells hmm hown hv hjl
      go_wp2_with fail
      refine SJ'.out.mono ?_
      rintro e w3 ⟨rfl, hb3⟩
      have hb4 := hb.trans (hb3.mono hb.size)
      clear hb hb3
      go_wp2
      go_ret2
      rw [HF.out]
      exact ⟨rfl, hb4⟩
end Go.Proofs.YtkhcfhhejmkikaaGreatDoor

namespace Go.Proofs.YtkhcfhhejmkikaaGreatDoor
open Go.RowKit
set_option maxRecDepth 100000

/-- A word, and new blocks at most. -/
def WordRet (z : Int) (t : ByteArray) (w : World) (e : Ending) (w' : World) : Prop := e = .returned (.agg #[.int .i64 z, .string t]) ∧ Below w.heap.size w w'

/-- A variable of the call's own, behind a callee: its cells are there, and can be written. -/
theorem own_cells {w w2 : World} {c0 c1 : Value} {t : TypeId} (hb : Below (w.alloc (.cells #[c0, c1] t (0, 0))).heap.size (w.alloc (.cells #[c0, c1] t (0, 0))) w2) :
    w2.cell? ⟨w.heap.size, 0, none⟩ = some c0 ∧ w2.cell? ⟨w.heap.size, 1, none⟩ = some c1 ∧ w2.frozen? ⟨w.heap.size, 0, none⟩ = false ∧ w2.frozen? ⟨w.heap.size, 1, none⟩ = false := by
  have hlt : w.heap.size < (w.alloc (.cells #[c0, c1] t (0, 0))).heap.size := by show _ < (w.heap.push _).size; simp
  refine ⟨?_, ?_, ?_, ?_⟩
  · rw [hb.cell (p := ⟨w.heap.size, 0, none⟩) hlt, alloc_cell]; rfl
  · rw [hb.cell (p := ⟨w.heap.size, 1, none⟩) hlt, alloc_cell]; rfl
  · rw [hb.frozen (p := ⟨w.heap.size, 0, none⟩) hlt, alloc_frozen]
  · rw [hb.frozen (p := ⟨w.heap.size, 1, none⟩) hlt, alloc_frozen]

theorem own_set {w : World} {b : Nat} {c0 c1 : Value} (h0 : w.cell? ⟨b, 0, none⟩ = some c0) (h1 : w.cell? ⟨b, 1, none⟩ = some c1) :
    (∀ z, (w.setCell ⟨b, 0, none⟩ z).cell? ⟨b, 0, none⟩ = some z) ∧ (∀ z t, ((w.setCell ⟨b, 0, none⟩ z).setCell ⟨b, 1, none⟩ t).cell? ⟨b, 1, none⟩ = some t) := by
  refine ⟨fun z => World.cell?_setCell_same _ _ _ h0, fun z t => ?_⟩
  exact World.cell?_setCell_same _ _ _ (u := c1) (by rw [World.cell?_setCell_other _ _ _ _ (by simp)]; exact h1)
set_option maxHeartbeats 400000 in
theorem l1Word_any (t : ByteArray) (w : World) (h0 : 0 < t.size) :
    Calls Tryz.prog 59 #[.string t] w (WordRet (wordKind t (cls t[0].toNat)) t w) := by
  have C1 := fun W => Lib.hid (l1Class_any t[0] W)
  have C2 := fun W => Lib.hid (l1Key_any t W)
  unfold wordKind
  generalize cls t[0].toNat = z at *
  have hb0 : Below w.heap.size w (w.alloc (.cells #[.int .i64 0, .string ⟨#[]⟩] 76)) := (Below.refl _ _).alloc (Nat.le_refl _) _
  cases hk : isKeyB t
  all_goals
    rw [hk] at C2
    clear hk
    go_enter Tryz.func59, Tryz.ntmps59
    go_wp2_with fail
    refine (C1 _).out.mono ?_
    rintro e w1 ⟨rfl, rfl⟩
    go_wp2_with fail
    refine (C2 _).out.mono ?_
    rintro e w2 ⟨rfl, hb2⟩
    obtain ⟨k0, k1, k2, k3⟩ := own_cells hb2
    have hb3 := hb0.trans (hb2.mono hb0.size)
    clear hb0 hb2 C1 C2
    obtain ⟨g0, g1⟩ := own_set k0 k1
    go_wp2
    refine bodyPost_ret (v := .agg #[.int .i64 _, .string t]) (by simp [results, Tryz.results59, go_sem, g0, g1]; rfl) rfl ?_
    exact ⟨rfl, (hb3.setCell (Nat.le_refl _) _).setCell (Nat.le_refl _) _⟩

set_option maxHeartbeats 400000 in
theorem wordOf_any (t : ByteArray) (w : World) (h0 : 0 < t.size) (T : Tabs w) :
    Calls Tryz.prog 53 #[.string t] w (WordRet (runKind t) t w) := by
  have hb0 : Below w.heap.size w (w.alloc (.cells #[.int .i64 0, .string ⟨#[]⟩] 76)) := (Below.refl _ _).alloc (Nat.le_refl _) _
  have T1 := T.below hb0
  have C1 := Lib.hid (isKey_any t _ T1)
  have C2 := Lib.hid (kindOfByte_any t[0] _ T1)
  unfold runKind
  rw [dif_pos h0]
  generalize kindN t[0].toNat = z at *
  cases hk : isKeyB t
  all_goals
    rw [hk] at C1
    clear hk T T1
    go_enter Tryz.func53, Tryz.ntmps53
    go_wp2_with fail
    refine C1.out.mono ?_
    rintro e w1 ⟨rfl, rfl⟩
    go_wp2_with fail
  · refine C2.out.mono ?_
    rintro e w2 ⟨rfl, rfl⟩
    clear C1 C2
    go_wp2
    go_returns
    exact ⟨rfl, (Below.refl _ _).alloc (Nat.le_refl _) _⟩
  · clear C1 C2
    go_wp2
    go_returns
    exact ⟨rfl, (Below.refl _ _).alloc (Nat.le_refl _) _⟩

/-- The state of a cutter behind a kind, as a value. -/
def stV (z : Int) : Value := if z = 1 then .func (.func 110) #[] #[] else if z = 2 then .func (.func 111) #[] #[] else if z = 5 then .func (.func 112) #[] #[] else .func (.func 86) #[] #[]
/-- Does a kind go on with a state? -/
def goB (z z' : Int) : Bool := z' == z && (z == 1 || z == 2 || z == 5)
theorem goB_kind (z : Int) (b : UInt8) : goB z (kindN b.toNat) = goKind z b := rfl
set_option maxHeartbeats 400000 in
theorem inDigits_any (n : Int) (w : World) :
    Calls Tryz.prog 111 #[.int .i64 n] w fun e w' => e = .returned (.bool (n == 2)) ∧ w = w' := by
  go_enter Tryz.func111, Tryz.ntmps111
  go_wp2
  go_ret
  exact ⟨rfl, rfl⟩
set_option maxHeartbeats 400000 in
theorem inGap_any (n : Int) (w : World) :
    Calls Tryz.prog 112 #[.int .i64 n] w fun e w' => e = .returned (.bool (n == 5)) ∧ w = w' := by
  go_enter Tryz.func112, Tryz.ntmps112
  go_wp2
  go_ret
  exact ⟨rfl, rfl⟩
set_option maxHeartbeats 400000 in
theorem alone_any (n : Int) (w : World) :
    Calls Tryz.prog 86 #[.int .i64 n] w fun e w' => e = .returned (.bool false) ∧ w = w' := by
  go_enter Tryz.func86, Tryz.ntmps86
  go_wp2
  go_ret
  exact ⟨rfl, rfl⟩
set_option maxHeartbeats 400000 in
theorem stateBehind_any (z : Int) (w : World) :
    Calls Tryz.prog 88 #[.int .i64 z] w fun e w' => e = .returned (stV z) ∧ w = w' := by
  unfold stV
  by_cases h1 : z = 1
  · subst h1
    rw [if_pos rfl]
    go_enter Tryz.func88, Tryz.ntmps88
    go_wp2
    go_ret
    exact ⟨rfl, rfl⟩
  by_cases h2 : z = 2
  · subst h2
    rw [if_neg (by omega), if_pos rfl]
    go_enter Tryz.func88, Tryz.ntmps88
    go_wp2
    go_ret
    exact ⟨rfl, rfl⟩
  by_cases h5 : z = 5
  · subst h5
    rw [if_neg (by omega), if_neg (by omega), if_pos rfl]
    go_enter Tryz.func88, Tryz.ntmps88
    go_wp2
    go_ret
    exact ⟨rfl, rfl⟩
  · rw [if_neg h1, if_neg h2, if_neg h5]
    have b1 : (z == 1) = false := by rw [beq_eq_false_iff_ne]; exact h1
    have b2 : (z == 2) = false := by rw [beq_eq_false_iff_ne]; exact h2
    have b5 : (z == 5) = false := by rw [beq_eq_false_iff_ne]; exact h5
    clear h1 h2 h5
    go_enter Tryz.func88, Tryz.ntmps88
    go_wp2
    go_ret
    exact ⟨rfl, rfl⟩

/-- Texts as values. -/
def strCells (l : List ByteArray) : List Value := l.map Value.string
theorem strCells_snoc (l : List ByteArray) (t : ByteArray) : strCells (l ++ [t]) = strCells l ++ [.string t] := by unfold strCells; simp
theorem strCells_len (l : List ByteArray) : (strCells l).length = l.length := by unfold strCells; simp

/-- Where a cutter of runs stands: i bytes are gone through, the run that has been begun begins at b, its kind is z. -/
def cutRel (s : ByteArray) (i b : Nat) (z : Int) (xs : List ByteArray) : Prop :=
  (i = 0 ∧ b = 0 ∧ z = 0 ∧ xs = []) ∨ (∃ h : b < i, ∃ hi : i ≤ s.size, z = kindN (s[b]'(by omega)).toNat ∧ runsF s 0 = xs ++ runsF s b ∧ endK s b (by omega) = scanP s (goKind z) i ∧ xs.length ≤ b)
theorem cutRel_on {s : ByteArray} {i b : Nat} {z : Int} {xs : List ByteArray} (h : cutRel s i b z xs) (hi : i < s.size) (hg : goB z (kindN s[i].toNat) = true) : cutRel s (i + 1) b z xs := by
  rcases h with ⟨_, _, rfl, _⟩ | ⟨h1, h2, h3, h4, h5, h6⟩
  · unfold goB at hg; simp at hg
  · exact .inr ⟨by omega, hi, h3, h4, by rw [h5, scanP_step hi (by rw [← goB_kind]; exact hg)], h6⟩
theorem cutRel_new {s : ByteArray} {i b : Nat} {z : Int} {xs : List ByteArray} (h : cutRel s i b z xs) (hi : i < s.size) (hg : goB z (kindN s[i].toNat) = false) :
    cutRel s (i + 1) i (kindN s[i].toNat) (if b < i then xs ++ [s.extract b i] else xs) := by
  rcases h with ⟨rfl, rfl, _, rfl⟩ | ⟨h1, h2, h3, h4, h5, h6⟩
  · right
    refine ⟨by omega, hi, rfl, by simp, rfl, by simp⟩
  · right
    rw [if_pos h1]
    have he : endK s b (by omega) = i := by
      rw [h5]; exact scanP_stop (fun h => by rw [← goB_kind]; exact hg)
    refine ⟨by omega, hi, rfl, ?_, rfl, by simp; omega⟩
    rw [h4, runsF_step (show b < s.size by omega), he]
    simp
theorem cutRel_end {s : ByteArray} {b : Nat} {z : Int} {xs : List ByteArray} (h : cutRel s s.size b z xs) : runsF s 0 = if b < s.size then xs ++ [s.extract b s.size] else xs := by
  rcases h with ⟨h1, rfl, _, rfl⟩ | ⟨h1, h2, h3, h4, h5, h6⟩
  · rw [if_neg (by omega), runsF_end (by omega)]
  · rw [if_pos h1]
    have he : endK s b h1 = s.size := by
      have := scanP_stop (s := s) (p := goKind z) (k := s.size) (fun h => absurd h (by omega))
      rw [this] at h5; exact h5
    rw [h4, runsF_step h1, he, runsF_end (by omega)]
theorem cutRel_bd {s : ByteArray} {i b : Nat} {z : Int} {xs : List ByteArray} (h : cutRel s i b z xs) : b ≤ i ∧ xs.length ≤ b := by
  rcases h with ⟨rfl, rfl, _, rfl⟩ | ⟨h1, _, _, _, _, h6⟩
  · simp
  · omega

/-- Texts in memory of the call's own. -/
def RunsRet (l : List ByteArray) (w : World) (e : Ending) (w' : World) : Prop :=
  (∃ v, e = .returned v ∧ w'.ownsRow w.heap.size 9 1 v l.length (strCells l)) ∧ Below w.heap.size w w'
theorem cutV_cases (z : Int) : (z = 1 ∧ stV z = .func (.func 110) #[] #[] ∧ ∀ z', goB z z' = (z' == 1)) ∨ (z = 2 ∧ stV z = .func (.func 111) #[] #[] ∧ ∀ z', goB z z' = (z' == 2)) ∨
    (z = 5 ∧ stV z = .func (.func 112) #[] #[] ∧ ∀ z', goB z z' = (z' == 5)) ∨ (stV z = .func (.func 86) #[] #[] ∧ ∀ z', goB z z' = false) := by
  by_cases h1 : z = 1
  · subst h1; left; exact ⟨rfl, rfl, fun z' => by unfold goB; simp⟩
  by_cases h2 : z = 2
  · subst h2; right; left; exact ⟨rfl, rfl, fun z' => by unfold goB; simp⟩
  by_cases h5 : z = 5
  · subst h5; right; right; left; exact ⟨rfl, rfl, fun z' => by unfold goB; simp⟩
  · right; right; right
    refine ⟨by unfold stV; rw [if_neg h1, if_neg h2, if_neg h5], fun z' => ?_⟩
    unfold goB
    have b1 : (z == 1) = false := by rw [beq_eq_false_iff_ne]; exact h1
    have b2 : (z == 2) = false := by rw [beq_eq_false_iff_ne]; exact h2
    have b5 : (z == 5) = false := by rw [beq_eq_false_iff_ne]; exact h5
    rw [b1, b2, b5]; simp
theorem textOne : ∀ (t : ByteArray), ∀ u ∈ [Value.string t], u.oneCell' = true := by intro t u hu; simp at hu; subst hu; rfl

set_option maxHeartbeats 4000000 in
theorem cutRuns_any (s : ByteArray) (w : World) (hs : s.size ≤ 3000) (T : Tabs w) :
    Calls Tryz.prog 52 #[.string s] w (RunsRet (runsF s 0) w) := by
  obtain ⟨i0, hi, hz0, hz1, hz2⟩ := info_parts stringInfo
  go_enter Tryz.func52, Tryz.ntmps52
  go_wp2
  go_loopw [3, 4, 5, 10] (fun v b st i wr => ∃ (n m : Nat) (z : Int) (xs : List ByteArray), n ≤ s.size ∧ i = .int .i64 n ∧ b = .int .i64 m ∧ st = stV z ∧ cutRel s n m z xs ∧ wr.ownsRow w.heap.size 9 1 v xs.length (strCells xs) ∧ Below w.heap.size w wr) (fun _ _ _ i _ => s.size - (intOf i).toNat)
  case atStart => exact ⟨0, 0, 0, [], Nat.zero_le _, rfl, rfl, rfl, .inl ⟨rfl, rfl, rfl, rfl⟩, ⟨rfl, .inl ⟨rfl, rfl⟩⟩, Below.refl _ _⟩
  case round =>
    obtain ⟨n, m, z, xs, hn, rfl, rfl, rfl, hrel, hown, hb⟩ := hrel
    have hbd := cutRel_bd hrel
    have HR := Lib.hid hrel
    have HO := Lib.hid hown
    clear hrel hown
    by_cases hlt : n < s.size
    · have KB := Lib.hid (kindOfByte_any s[n] wr (T.below hb))
      go_wp2_with fail
      refine KB.out.mono ?_
      rintro e w1 ⟨rfl, rfl⟩
      clear KB
      cases hg : goB z (kindN s[n].toNat)
      · have HN := Lib.hid (cutRel_new HR.out hlt hg)
        have HB := Lib.hid hbd
        have SB := fun W => Lib.hid (stateBehind_any (kindN s[n].toNat) W)
        generalize kindN s[n].toNat = z' at *
        by_cases hmn : m < n
        · rw [if_pos hmn] at HN
          have HNW := Lib.hid (new_text wr (s.extract m n))
          have HTO := Lib.hid (textOne (s.extract m n))
          have hb2 := hb.alloc hb.size (.cells #[.string (s.extract m n)] 9)
          have hbz : w.heap.size ≤ (wr.alloc (.cells #[.string (s.extract m n)] 9)).heap.size := hb2.size
          rcases cutV_cases z with ⟨_, hst, hgo⟩ | ⟨_, hst, hgo⟩ | ⟨_, hst, hgo⟩ | ⟨hst, hgo⟩
          all_goals
            have hzb := (hgo z').symm.trans hg
            rw [hst]
            clear hgo hg hst
            go_wp2_with fail
            first
              | (go_at_call 110; refine (inLetters_any _ _).mono ?_; rintro e w2 ⟨rfl, rfl⟩)
              | (go_at_call 111; refine (inDigits_any _ _).mono ?_; rintro e w2 ⟨rfl, rfl⟩)
              | (go_at_call 112; refine (inGap_any _ _).mono ?_; rintro e w2 ⟨rfl, rfl⟩)
              | (go_at_call 86; refine (alone_any _ _).mono ?_; rintro e w2 ⟨rfl, rfl⟩)
            go_wp2_with (at_builtin; refine wpList_append_own _ rfl _ _ 72 rfl w.heap.size 9 i0 (.string ⟨#[]⟩) 1 16 Tryz.underlying72 hi hz0 hz1 hz2 rfl (by decide) _ xs.length (strCells xs) rfl (HO.out.alloc _) ⟨wr.heap.size, 0, none⟩ 1 1 [.string (s.extract m n)] rfl rfl HNW.out HTO.out (by unfold maxLen; omega) (by omega) hbz ?_; intro v' w3 hown3 hgrow3 _)
            have hb3 := hb2.grown hgrow3 hbz (fun k e => ((HO.out.alloc (.cells #[.string (s.extract m n)] 9)).lt k e).1)
            have HO3 := Lib.hid hown3
            clear hb hb2 hgrow3 hown3
            go_wp2_with fail
            refine (SB _).out.mono ?_
            rintro e w4 ⟨rfl, rfl⟩
            go_wp2
            go_roundw
            case rel => exact ⟨n + 1, n, z', xs ++ [s.extract m n], by omega, by go_num, rfl, rfl, HN.out, by rw [strCells_snoc, List.length_append]; exact HO3.out, hb3⟩
            case measure => simp only [intOf]; omega
        · rw [if_neg hmn] at HN
          have hmn' : n ≤ m := by omega
          clear hmn
          rcases cutV_cases z with ⟨_, hst, hgo⟩ | ⟨_, hst, hgo⟩ | ⟨_, hst, hgo⟩ | ⟨hst, hgo⟩
          all_goals
            have hzb := (hgo z').symm.trans hg
            rw [hst]
            clear hgo hg hst
            go_wp2_with fail
            first
              | (go_at_call 110; refine (inLetters_any _ _).mono ?_; rintro e w2 ⟨rfl, rfl⟩)
              | (go_at_call 111; refine (inDigits_any _ _).mono ?_; rintro e w2 ⟨rfl, rfl⟩)
              | (go_at_call 112; refine (inGap_any _ _).mono ?_; rintro e w2 ⟨rfl, rfl⟩)
              | (go_at_call 86; refine (alone_any _ _).mono ?_; rintro e w2 ⟨rfl, rfl⟩)
            go_wp2_with fail
            refine (SB _).out.mono ?_
            rintro e w4 ⟨rfl, rfl⟩
            go_wp2
            go_roundw
            case rel => exact ⟨n + 1, n, z', xs, by omega, by go_num, rfl, rfl, HN.out, HO.out, hb⟩
            case measure => simp only [intOf]; omega
      · have HN := Lib.hid (cutRel_on HR.out hlt hg)
        generalize kindN s[n].toNat = z' at *
        rcases cutV_cases z with ⟨_, hst, hgo⟩ | ⟨_, hst, hgo⟩ | ⟨_, hst, hgo⟩ | ⟨hst, hgo⟩
        case inr.inr.inr => rw [hgo] at hg; cases hg
        all_goals
          have hzb := (hgo z').symm.trans hg
          have HST := Lib.hid hst
          rw [hst]
          clear hgo hg hst
          go_wp2_with fail
          first
            | (go_at_call 110; refine (inLetters_any _ _).mono ?_; rintro e w2 ⟨rfl, rfl⟩)
            | (go_at_call 111; refine (inDigits_any _ _).mono ?_; rintro e w2 ⟨rfl, rfl⟩)
            | (go_at_call 112; refine (inGap_any _ _).mono ?_; rintro e w2 ⟨rfl, rfl⟩)
            | (go_at_call 86; refine (alone_any _ _).mono ?_; rintro e w2 ⟨rfl, rfl⟩)
          go_wp2
          go_roundw
          case rel => exact ⟨n + 1, m, z, xs, by omega, by go_num, rfl, HST.out.symm, HN.out, HO.out, hb⟩
          case measure => simp only [intOf]; omega
    · obtain rfl : n = s.size := by omega
      have HE := Lib.hid (cutRel_end HR.out)
      by_cases hmn : m < s.size
      · rw [if_pos hmn] at HE
        have HNW := Lib.hid (new_text wr (s.extract m s.size))
        have HTO := Lib.hid (textOne (s.extract m s.size))
        have hb2 := hb.alloc hb.size (.cells #[.string (s.extract m s.size)] 9)
        have hbz : w.heap.size ≤ (wr.alloc (.cells #[.string (s.extract m s.size)] 9)).heap.size := hb2.size
        go_wp2_with (at_builtin; refine wpList_append_own _ rfl _ _ 72 rfl w.heap.size 9 i0 (.string ⟨#[]⟩) 1 16 Tryz.underlying72 hi hz0 hz1 hz2 rfl (by decide) _ xs.length (strCells xs) rfl (HO.out.alloc _) ⟨wr.heap.size, 0, none⟩ 1 1 [.string (s.extract m s.size)] rfl rfl HNW.out HTO.out (by unfold maxLen; omega) (by omega) hbz ?_; intro v' w3 hown3 hgrow3 _)
        have hb3 := hb2.grown hgrow3 hbz (fun k e => ((HO.out.alloc (.cells #[.string (s.extract m s.size)] 9)).lt k e).1)
        have HO3 := Lib.hid hown3
        clear hb hb2 hgrow3 hown3
        go_wp2
        go_ret
        refine ⟨⟨_, rfl, ?_⟩, hb3⟩
        rw [HE.out, strCells_snoc, List.length_append]
        exact HO3.out
      · rw [if_neg hmn] at HE
        have hmn' : s.size ≤ m := by omega
        clear hmn
        go_wp2
        go_ret
        refine ⟨⟨_, rfl, ?_⟩, hb⟩
        rw [HE.out]
        exact HO.out
end Go.Proofs.YtkhcfhhejmkikaaGreatDoor

namespace Go.Proofs.YtkhcfhhejmkikaaGreatDoor
open Go.RowKit
set_option maxRecDepth 100000

/-- Words in memory of the call's own, and a flag. -/
def CutRet (p : List (Int × ByteArray) × Bool) (w : World) (e : Ending) (w' : World) : Prop :=
  (∃ v, e = .returned (.tuple #[v, .bool p.2]) ∧ w'.ownsRow w.heap.size 76 2 v p.1.length (wordCells p.1)) ∧ Below w.heap.size w w'
theorem wordCells_snoc : ∀ (l : List (Int × ByteArray)) (x : Int × ByteArray), wordCells (l ++ [x]) = wordCells l ++ [.int .i64 x.1, .string x.2]
  | [], _ => rfl
  | y :: l, x => by simp [wordCells, wordCells_snoc l x]
theorem wordOne (z : Int) (t : ByteArray) : ∀ u ∈ [Value.int .i64 z, Value.string t], u.oneCell' = true := by
  intro u hu
  simp at hu
  rcases hu with rfl | rfl <;> rfl
theorem new_word (w : World) (z : Int) (t : ByteArray) : ∀ (j : Nat) u, [Value.int .i64 z, Value.string t][j]? = some u → (w.alloc (.cells #[.int .i64 z, .string t] 76)).cell? ((⟨w.heap.size, 0, none⟩ : Addr).add j) = some u := by
  intro j u hu
  match j, hu with
  | 0, hu =>
    have : (⟨w.heap.size, 0, none⟩ : Addr).add 0 = ⟨w.heap.size, 0, none⟩ := rfl
    rw [this, alloc_cell]
    exact hu
  | 1, hu =>
    have : (⟨w.heap.size, 0, none⟩ : Addr).add 1 = ⟨w.heap.size, 1, none⟩ := rfl
    rw [this, alloc_cell]
    exact hu
  | j + 2, hu => simp at hu
theorem own_slice {w : World} {base e size n : Nat} {v : Value} {xs : List Value} (h : w.ownsRow base e size v n xs) : ∃ A cap, v = .slice A n cap := by
  rcases h.2 with ⟨rfl, rfl⟩ | ⟨g, cap, cur, rfl, _⟩
  · exact ⟨none, 0, rfl⟩
  · exact ⟨_, cap, rfl⟩
/-- Behind words acc, from i on. -/
def cutAt (s : ByteArray) (i : Nat) (acc : List (Int × ByteArray)) : Prop := cutF s 0 = (cutF s i).map (acc ++ ·) ∧ acc.length ≤ i
theorem cutAt_blank {s : ByteArray} {i : Nat} {acc : List (Int × ByteArray)} (h : cutAt s i acc) (hi : i < s.size) (hc : cls s[i].toNat = 4) : cutAt s (i + 1) acc := ⟨by rw [h.1, cutF_blank hi hc], by have := h.2; omega⟩
theorem cutAt_word {s : ByteArray} {i : Nat} {acc : List (Int × ByteArray)} (h : cutAt s i acc) (hi : i < s.size) (hc : cls s[i].toNat ≠ 4) (h0 : cls s[i].toNat ≠ 0) (hv : validB (wordKind (s.extract i (endC s i hi)) (cls s[i].toNat)) (s.extract i (endC s i hi)) = true) :
    cutAt s (endC s i hi) (acc ++ [(wordKind (s.extract i (endC s i hi)) (cls s[i].toNat), s.extract i (endC s i hi))]) := by
  refine ⟨?_, by have := h.2; have := endC_bd hi; simp; omega⟩
  rw [h.1, cutF_word hi hc h0 hv]
  cases cutF s (endC s i hi) <;> simp
theorem cutAt_bad {s : ByteArray} {i : Nat} {acc : List (Int × ByteArray)} (h : cutAt s i acc) (hn : cutF s i = none) : cutRes s = ([], false) := cutRes_none (by rw [h.1, hn]; rfl)
theorem cutAt_end {s : ByteArray} {i : Nat} {acc : List (Int × ByteArray)} (h : cutAt s i acc) (hi : ¬ i < s.size) : cutF s 0 = some acc := by rw [h.1, cutF_end hi]; simp
theorem endC_blank {s : ByteArray} {i : Nat} (h : i < s.size) (hc : 3 ≤ cls s[i].toNat) : endC s i h = i + 1 := by
  unfold endC
  refine scanP_stop (fun _ => ?_)
  unfold goCls
  rw [decide_eq_false (show ¬ cls s[i].toNat < 3 by omega), Bool.and_false]

theorem empty_own (w : World) (base : Nat) (hb : base ≤ w.heap.size) : (w.alloc (.cells #[] 76)).ownsRow base 76 2 (.slice (some ⟨w.heap.size, 0, none⟩) 0 0) 0 [] := by
  refine ⟨rfl, .inr ⟨w.heap.size, 0, #[], rfl, hb, ?_, Nat.le_refl _, by unfold maxLen; omega, rfl, rfl⟩⟩
  show (w.heap.push _)[w.heap.size]? = _
  simp
set_option maxHeartbeats 4000000 in
theorem specCutWords_any (s : ByteArray) (w : World) (hs : s.size ≤ 1048576) :
    Calls Tryz.prog 26 #[.string s] w (CutRet (cutRes s) w) := by
  obtain ⟨i0, hi, hz0, hz1, hz2⟩ := info_parts wordInfo
  by_cases hlong : 3000 < s.size
  · rw [cutRes_long hlong]
    have hpos : 0 < s.size := by omega
    go_enter Tryz.func26, Tryz.ntmps26
    go_wp2
    refine wp_loop_rounds 1 ?_
    rw [rounds_succ]
    go_wp2
    go_ret2
    have hbn := (Below.refl w.heap.size w).alloc (Nat.le_refl _) (.cells #[] 76)
    have he := empty_own _ _ hbn.size
    rw [World.size_alloc] at he
    exact ⟨⟨_, rfl, he⟩, hbn.alloc hbn.size _⟩
  have hle : s.size ≤ 3000 := by omega
  clear hlong hs
  go_enter Tryz.func26, Tryz.ntmps26
  go_wp2
  go_loopw [4, 5] (fun v i wr => ∃ (n : Nat) (acc : List (Int × ByteArray)), n ≤ s.size ∧ i = .int .i64 n ∧ cutAt s n acc ∧ wr.ownsRow w.heap.size 76 2 v acc.length (wordCells acc) ∧ Below w.heap.size w wr) (fun _ i _ => s.size - (intOf i).toNat)
  case atStart => exact ⟨0, [], Nat.zero_le _, rfl, ⟨by simp, Nat.le_refl _⟩, empty_own _ _ (Nat.le_refl _), (Below.refl _ _).alloc (Nat.le_refl _) _⟩
  case round =>
    obtain ⟨n, acc, hn, rfl, hat, hown, hb⟩ := hrel
    have HAT := Lib.hid hat
    have hacc : acc.length ≤ n := hat.2
    have HO := Lib.hid hown
    clear hat hown
    obtain ⟨wo, rfl⟩ : ∃ wo : World, wo = wr := ⟨_, rfl⟩
    by_cases hlt : n < s.size
    · have CL := Lib.hid (l1Class_any s[n] wo)
      have hbd := endC_bd hlt
      have hcr := cls_range s[n].toNat
      go_wp2_with fail
      refine CL.out.mono ?_
      rintro e w1 ⟨rfl, rfl⟩
      clear CL
      obtain ⟨c, hc⟩ : ∃ c, c = cls s[n].toNat := ⟨_, rfl⟩
      obtain ⟨E, hE⟩ : ∃ E, E = endC s n hlt := ⟨_, rfl⟩
      have HSC := Lib.hid (show scanP s (goCls c) (n + 1) = E by rw [hc, hE]; rfl)
      rw [← hc] at hcr ⊢
      rw [← hE] at hbd
      have HC := Lib.hid hc
      have HEE := Lib.hid hE
      clear hc hE
      go_upto_block 2 with (fail)
      go_cut [7] (fun k wx => k = .int .i64 (E : Int) ∧ wx = wo)
      case first =>
        go_wp2
        go_loop [7] (fun k => ∃ m : Nat, n + 1 ≤ m ∧ m ≤ s.size ∧ k = .int .i64 m ∧ scanP s (goCls c) m = E) (fun k => s.size - (intOf k).toNat)
        case atStart => exact ⟨n + 1, Nat.le_refl _, hlt, by go_num, HSC.out⟩
        case round =>
          obtain ⟨m, hm1, hm2, rfl, hsc⟩ := hrel
          have HM := Lib.hid hsc
          clear hsc
          by_cases hms : m < s.size
          · have CM := Lib.hid (l1Class_any s[m] wo)
            have HD := Lib.hid (show goCls c s[m] = (cls s[m].toNat == c && decide (c < 3)) from rfl)
            generalize hcm : cls s[m].toNat = c2 at *
            clear hcm
            go_wp2_with fail
            refine CM.out.mono ?_
            rintro e w1 ⟨rfl, rfl⟩
            by_cases h2 : c2 = c
            · by_cases h3 : c < 3
              · have b2 : (c2 == c) = true := beq_iff_eq.2 h2
                have HN := Lib.hid (scanP_step (p := goCls c) hms (by rw [HD.out, b2, decide_eq_true h3]; rfl))
                clear h2
                go_wp2
                go_round
                case rel => exact ⟨m + 1, by omega, hms, by go_num, by rw [← HN.out]; exact HM.out⟩
                case measure => simp only [intOf]; omega
              · have b2 : (c2 == c) = true := beq_iff_eq.2 h2
                have HN := Lib.hid (scanP_stop (s := s) (p := goCls c) (k := m) (fun h => by rw [HD.out, decide_eq_false h3, Bool.and_false]))
                have HX := Lib.hid (HN.out.symm.trans HM.out)
                have h3' : 3 ≤ c := by omega
                clear h2 h3
                go_wp2
                go_meet
                exact ⟨by rw [← HX.out], rfl⟩
            · have b2 : (c2 == c) = false := by rw [beq_eq_false_iff_ne]; exact h2
              have HN := Lib.hid (scanP_stop (s := s) (p := goCls c) (k := m) (fun h => by rw [HD.out, b2, Bool.false_and]))
              have HX := Lib.hid (HN.out.symm.trans HM.out)
              clear h2
              go_wp2
              go_meet
              exact ⟨by rw [← HX.out], rfl⟩
          · have HN := Lib.hid (scanP_stop (s := s) (p := goCls c) (k := m) (fun h => absurd h hms))
            have HX := Lib.hid (HN.out.symm.trans HM.out)
            have hms' : s.size ≤ m := by omega
            clear hms
            go_wp2
            go_meet
            exact ⟨by rw [← HX.out], rfl⟩
      case rest =>
        obtain ⟨rfl, rfl⟩ := hcut
        have hbs := hb.size
        by_cases h4 : c = 4
        · subst h4
          have hE1 : E = n + 1 := by rw [HEE.out]; exact endC_blank hlt (by rw [← HC.out]; omega)
          have HN := Lib.hid (cutAt_blank HAT.out hlt HC.out.symm)
          have HE1 := Lib.hid hE1
          clear hE1
          go_wp2
          go_roundw
          case rel => exact ⟨E, acc, hbd.2, rfl, by rw [HE1.out]; exact HN.out, HO.out, hb⟩
          case measure => simp only [intOf]; omega
        have b4 : (c == 4) = false := by rw [beq_eq_false_iff_ne]; exact h4
        have b4' : (c != 4) = true := by rw [bne, b4]; rfl
        by_cases h0 : c = 0
        · subst h0
          have HR := Lib.hid (cutAt_bad HAT.out (cutF_bad hlt (by rw [← HC.out]; omega) (.inl HC.out.symm)))
          have HEM := Lib.hid (empty_own wc _ hbs)
          have hbn := hb.alloc hbs (.cells #[] 76)
          clear h4
          go_wp2
          go_ret2
          rw [HR.out]
          exact ⟨⟨_, rfl, HEM.out⟩, hbn⟩
        have b0 : (c == 0) = false := by rw [beq_eq_false_iff_ne]; exact h0
        obtain ⟨t0, tg⟩ := extract_get hbd.1 hbd.2
        have LW := fun W => l1Word_any (s.extract n E) W t0
        rw [tg, ← HC.out] at LW
        replace LW := fun W => Lib.hid (LW W)
        have htz : (s.extract n E).size ≤ 1048576 := by rw [ByteArray.size_extract]; omega
        have VW := fun W => Lib.hid (specWordValid_any (wordKind (s.extract n E) c) (s.extract n E) W htz)
        have HV0 : validB (wordKind (s.extract n (endC s n hlt)) (cls s[n].toNat)) (s.extract n (endC s n hlt)) = validB (wordKind (s.extract n E) c) (s.extract n E) := by rw [← HEE.out, ← HC.out]
        cases hv : validB (wordKind (s.extract n E) c) (s.extract n E)
        · have HR := Lib.hid (cutAt_bad HAT.out (cutF_bad hlt (by rw [← HC.out]; exact h4) (.inr (HV0.trans hv))))
          rw [hv] at VW
          clear HV0 hv htz tg t0 h4 h0
          generalize wordKind (s.extract n E) c = kd at *
          go_wp2_with fail
          refine (LW _).out.mono ?_
          rintro e w2 ⟨rfl, hb2⟩
          go_wp2_with fail
          refine (VW _).out.mono ?_
          rintro e w3 ⟨rfl, hb3⟩
          have hb4 := (hb.trans (hb2.mono hbs)).trans (hb3.mono (Nat.le_trans hbs hb2.size))
          have HEM := Lib.hid (empty_own w3 _ hb4.size)
          have hbn := hb4.alloc hb4.size (.cells #[] 76)
          clear hb hb2 hb3 hb4
          go_wp2
          go_ret2
          rw [HR.out]
          exact ⟨⟨_, rfl, HEM.out⟩, hbn⟩
        · have HN0 := cutAt_word HAT.out hlt (by rw [← HC.out]; exact h4) (by rw [← HC.out]; exact h0) (HV0.trans hv)
          rw [← HEE.out, ← HC.out] at HN0
          have HN := Lib.hid HN0
          rw [hv] at VW
          clear HV0 HN0 hv htz tg t0 h4 h0
          generalize wordKind (s.extract n E) c = kd at *
          go_wp2_with fail
          refine (LW _).out.mono ?_
          rintro e w2 ⟨rfl, hb2⟩
          go_wp2_with fail
          refine (VW _).out.mono ?_
          rintro e w3 ⟨rfl, hb3⟩
          have hb4 := (hb.trans (hb2.mono hbs)).trans (hb3.mono (Nat.le_trans hbs hb2.size))
          have HO3 := Lib.hid ((HO.out.kept (w' := w2) (row := none) ⟨hb2.os, hb2.tape, hb2.output, hb2.size, fun i hi _ => hb2.block i hi⟩ (Classical.em _)).kept (w' := w3) (row := none) ⟨hb3.os, hb3.tape, hb3.output, hb3.size, fun i hi _ => hb3.block i hi⟩ (Classical.em _))
          clear hb hb2 hb3
          go_wp2_with fail
          refine (LW _).out.mono ?_
          rintro e w4 ⟨rfl, hb5⟩
          have hb6 := hb4.trans (hb5.mono hb4.size)
          have HO4 := Lib.hid (HO3.out.kept (w' := w4) (row := none) ⟨hb5.os, hb5.tape, hb5.output, hb5.size, fun i hi _ => hb5.block i hi⟩ (Classical.em _))
          have HNW := Lib.hid (new_word w4 kd (s.extract n E))
          have HTO := Lib.hid (wordOne kd (s.extract n E))
          have hb7 := hb6.alloc hb6.size (.cells #[.int .i64 kd, .string (s.extract n E)] 76)
          have hbz : w.heap.size ≤ (w4.alloc (.cells #[.int .i64 kd, .string (s.extract n E)] 76)).heap.size := hb7.size
          clear hb4 hb5 hb6
          go_wp2_with (at_builtin; refine wpList_append_own _ rfl _ _ 38 rfl w.heap.size 76 i0 (.agg #[.int .i64 0, .string ⟨#[]⟩]) 2 24 Tryz.underlying38 hi hz0 hz1 hz2 rfl (by decide) _ acc.length (wordCells acc) rfl (HO4.out.alloc _) ⟨w4.heap.size, 0, none⟩ 1 1 [.int .i64 kd, .string (s.extract n E)] rfl rfl HNW.out HTO.out (by unfold maxLen; omega) (by omega) hbz ?_; intro v' w5 hown5 hgrow5 _)
          have hb8 := hb7.grown hgrow5 hbz (fun k e => ((HO4.out.alloc (.cells #[.int .i64 kd, .string (s.extract n E)] 76)).lt k e).1)
          have HO5 := Lib.hid hown5
          clear hb7 hgrow5 hown5
          go_wp2
          go_roundw
          case rel => exact ⟨E, acc ++ [(kd, s.extract n E)], hbd.2, rfl, HN.out, by rw [wordCells_snoc, List.length_append]; exact HO5.out, hb8⟩
          case measure => simp only [intOf]; omega
    · obtain rfl : n = s.size := by omega
      have HE := Lib.hid (cutAt_end HAT.out (by omega))
      have hm : acc.length ≤ 600 ∨ 600 < acc.length := by omega
      obtain ⟨A, cap, rfl⟩ := own_slice HO.out
      rcases hm with hm | hm
      · have HR := Lib.hid (cutRes_yes hle HE.out hm)
        go_wp2
        go_ret2
        rw [HR.out]
        exact ⟨⟨_, rfl, HO.out⟩, hb⟩
      · have HR := Lib.hid (cutRes_many (s := s) (fun ws h => by rw [HE.out] at h; cases h; exact hm))
        have hbn := hb.alloc hb.size (.cells #[] 76)
        have hbs := hb.size
        go_wp2
        go_ret2
        rw [HR.out]
        exact ⟨⟨_, rfl, empty_own _ _ hbs⟩, hbn⟩
end Go.Proofs.YtkhcfhhejmkikaaGreatDoor

namespace Go.Proofs.YtkhcfhhejmkikaaGreatDoor
open Go.RowKit
set_option maxRecDepth 100000

theorem runsN_bd (s : ByteArray) : ∀ n i, ∀ t ∈ runsN s n i, 0 < t.size ∧ t.size ≤ s.size
  | 0, _, t, h => by cases h
  | n + 1, i, t, h => by
    unfold runsN at h
    by_cases hi : i < s.size
    · rw [dif_pos hi] at h
      have hb := endK_bd hi
      rcases List.mem_cons.1 h with rfl | h
      · rw [ByteArray.size_extract]; omega
      · exact runsN_bd s n _ t h
    · rw [dif_neg hi] at h; cases h
theorem runsN_len (s : ByteArray) : ∀ n i, (runsN s n i).length ≤ n
  | 0, _ => Nat.le_refl _
  | n + 1, i => by
    unfold runsN
    split
    · have := runsN_len s n (endK s i (by assumption)); simp; omega
    · simp
theorem runsF_bd {s : ByteArray} {i : Nat} : ∀ t ∈ runsF s i, 0 < t.size ∧ t.size ≤ s.size := runsN_bd s _ i
theorem runsF_len (s : ByteArray) : (runsF s 0).length ≤ s.size := runsN_len s _ 0
/-- Behind words acc, from run n on. -/
def procAt (l : List ByteArray) (n : Nat) (acc : List (Int × ByteArray)) : Prop := procR l = (procR (l.drop n)).map (acc ++ ·)
theorem procAt_gap {l : List ByteArray} {n : Nat} {acc : List (Int × ByteArray)} (h : procAt l n acc) (hn : n < l.length) (hk : runKind l[n] = 5) : procAt l (n + 1) acc := by
  unfold procAt at h ⊢
  rw [h, List.drop_eq_getElem_cons hn]
  congr 1
  show (if runKind l[n] = 5 then _ else _) = _
  rw [if_pos hk]
theorem procAt_word {l : List ByteArray} {n : Nat} {acc : List (Int × ByteArray)} (h : procAt l n acc) (hn : n < l.length) (hk : runKind l[n] ≠ 5) (hv : validB (runKind l[n]) l[n] = true) : procAt l (n + 1) (acc ++ [(runKind l[n], l[n])]) := by
  unfold procAt at h ⊢
  have e : procR (l[n] :: l.drop (n + 1)) = (procR (l.drop (n + 1))).map ((runKind l[n], l[n]) :: ·) := by
    show (if runKind l[n] = 5 then _ else if validB (runKind l[n]) l[n] = true then _ else none) = _
    rw [if_neg hk, if_pos hv]
  rw [h, List.drop_eq_getElem_cons hn, e]
  cases procR (l.drop (n + 1)) <;> simp
theorem procAt_bad {l : List ByteArray} {n : Nat} {acc : List (Int × ByteArray)} (h : procAt l n acc) (hn : n < l.length) (hk : runKind l[n] ≠ 5) (hv : validB (runKind l[n]) l[n] = false) : procR l = none := by
  unfold procAt at h
  have e : procR (l[n] :: l.drop (n + 1)) = none := by
    show (if runKind l[n] = 5 then _ else if validB (runKind l[n]) l[n] = true then _ else none) = _
    rw [if_neg hk, if_neg (by rw [hv]; simp)]
  rw [h, List.drop_eq_getElem_cons hn, e]
  rfl
theorem procAt_end {l : List ByteArray} {acc : List (Int × ByteArray)} (h : procAt l l.length acc) : procR l = some acc := by
  unfold procAt at h
  rw [h, List.drop_of_length_le (Nat.le_refl _)]
  simp [procR]
theorem procAt_many {l : List ByteArray} {n : Nat} {acc : List (Int × ByteArray)} (h : procAt l n acc) (hm : 600 < acc.length) : ∀ ws, procR l = some ws → 600 < ws.length := by
  intro ws hw
  unfold procAt at h
  rw [h] at hw
  obtain ⟨x, _, rfl⟩ := Option.map_eq_some_iff.1 hw
  simp; omega
theorem ownsRow_base {w : World} {base base' e size n : Nat} {v : Value} {xs : List Value} (h : w.ownsRow base e size v n xs) (hb : base' ≤ base) : w.ownsRow base' e size v n xs := by
  refine ⟨h.1, ?_⟩
  rcases h.2 with h' | ⟨g, cap, cur, h1, h2, h3⟩
  · exact .inl h'
  · exact .inr ⟨g, cap, cur, h1, by omega, h3⟩
theorem strs_own {w : World} {base e : Nat} {l : List ByteArray} {v : Value} (h : w.ownsRow base e 1 v l.length (strCells l)) : ∃ A cap, v = .slice A l.length cap ∧ Strs w w.heap.size A l := by
  rcases h.2 with ⟨rfl, h0⟩ | ⟨g, cap, cur, rfl, _⟩
  · exact ⟨none, 0, by rw [h0], fun hne => absurd (List.length_eq_zero_iff.1 h0) hne⟩
  · exact ⟨_, cap, rfl, strs_of_own h rfl (fun k hk => by unfold strCells; rw [List.getElem?_map, List.getElem?_eq_getElem hk]; rfl)⟩
theorem cut_runs (s : ByteArray) : procR (runsF s 0) = cutF s 0 := runs_cut s _ 0 (Nat.le_refl _)
theorem nil_own (w : World) (base : Nat) : w.ownsRow base 76 2 (.slice none 0 0) 0 [] := ⟨rfl, .inl ⟨rfl, rfl⟩⟩

set_option maxHeartbeats 4000000 in
theorem implCutWords_any (s : ByteArray) (w : World) (hs : s.size ≤ 1048576) (T : Tabs w) (N : NTabs w) :
    Calls Tryz.prog 23 #[.string s] w (CutRet (cutRes s) w) := by
  obtain ⟨i0, hi, hz0, hz1, hz2⟩ := info_parts wordInfo
  by_cases hlong : 3000 < s.size
  · rw [cutRes_long hlong]
    go_enter Tryz.func23, Tryz.ntmps23
    go_wp2
    go_ret2
    exact ⟨⟨_, rfl, nil_own _ _⟩, Below.refl _ _⟩
  have hle : s.size ≤ 3000 := by omega
  clear hlong hs
  have CR := Lib.hid (cutRuns_any s w hle T)
  have HCUT := Lib.hid (cut_runs s)
  have hbd := fun t h => runsF_bd (s := s) (i := 0) t h
  have HBD := Lib.hid hbd
  have hll := runsF_len s
  clear hbd
  generalize runsF s 0 = l at *
  go_enter Tryz.func23, Tryz.ntmps23
  go_wp2_with fail
  refine CR.out.mono ?_
  rintro e w1 ⟨⟨vr, rfl, hownr⟩, hb1⟩
  clear CR
  obtain ⟨A, capr, rfl, hS⟩ := strs_own hownr
  clear hownr
  have hbs1 := hb1.size
  go_wp2
  go_loopw [4, 14] (fun v i wr => ∃ (n : Nat) (acc : List (Int × ByteArray)), n ≤ l.length ∧ i = .int .i64 n ∧ procAt l n acc ∧ acc.length ≤ 600 ∧ wr.ownsRow w1.heap.size 76 2 v acc.length (wordCells acc) ∧ Below w1.heap.size w1 wr) (fun _ i _ => l.length - (intOf i).toNat)
  case atStart => exact ⟨0, [], Nat.zero_le _, rfl, by unfold procAt; simp, by simp, nil_own _ _, Below.refl _ _⟩
  case round =>
    obtain ⟨n, acc, hn, rfl, hat, hacc, hown, hb⟩ := hrel
    have HAT := Lib.hid hat
    have HO := Lib.hid hown
    clear hat hown
    obtain ⟨Aw, capw, rfl⟩ := own_slice HO.out
    have hb0 := hb1.trans (hb.mono hbs1)
    by_cases hlt : n < l.length
    · obtain ⟨b, o, rfl, hB, hc1⟩ := (hS.below hb).at_ hlt
      obtain ⟨t0, t1⟩ := HBD.out _ (List.getElem_mem hlt)
      have t2 : l[n].size ≤ 1048576 := by omega
      have WO := Lib.hid (wordOf_any l[n] wr t0 (T.below hb0))
      have VW := fun W h1 h2 => Lib.hid (implWordValid_any (runKind l[n]) l[n] W t2 h1 h2)
      by_cases h5 : runKind l[n] = 5
      · have HN := Lib.hid (procAt_gap HAT.out hlt h5)
        rw [h5] at WO
        clear h5 VW t0 t1 t2
        generalize l[n] = t at *
        go_wp2_with fail
        refine WO.out.mono ?_
        rintro e w2 ⟨rfl, hb2⟩
        have HO2 := Lib.hid (HO.out.kept (w' := w2) (row := none) ⟨hb2.os, hb2.tape, hb2.output, hb2.size, fun i hi _ => hb2.block i hi⟩ (Classical.em _))
        have hb3 := hb.trans (hb2.mono hb.size)
        have hb4 := hb3.alloc hb3.size (.cells #[.int .i64 5, .string t] 76)
        clear hb hb0 hb2 hb3
        go_wp2
        go_roundw
        case rel => exact ⟨n + 1, acc, by omega, by go_num, HN.out, hacc, HO2.out.alloc _, hb4⟩
        case measure => simp only [intOf]; omega
      · have b5 : (runKind l[n] == 5) = false := by rw [beq_eq_false_iff_ne]; exact h5
        cases hv : validB (runKind l[n]) l[n]
        · have HR := Lib.hid (cutRes_none (by rw [← HCUT.out]; exact procAt_bad HAT.out hlt h5 hv))
          rw [hv] at VW
          clear h5 hv t0 t1 t2
          generalize runKind l[n] = kd at *
          generalize l[n] = t at *
          go_wp2_with fail
          refine WO.out.mono ?_
          rintro e w2 ⟨rfl, hb2⟩
          have hb3 := hb0.trans (hb2.mono hb0.size)
          have hb4 := hb3.alloc hb3.size (.cells #[.int .i64 kd, .string t] 76)
          have V2 := Lib.hid (VW _ (T.below hb4) (N.below hb4)).out
          clear VW hb hb0 hb2 hb3
          go_wp2_with fail
          refine V2.out.mono ?_
          rintro e w3 ⟨rfl, hb5⟩
          have hb6 := hb4.trans (hb5.mono hb4.size)
          clear hb4 hb5 V2
          go_wp2
          go_ret2
          rw [HR.out]
          exact ⟨⟨_, rfl, nil_own _ _⟩, hb6⟩
        · have HN := Lib.hid (procAt_word HAT.out hlt h5 hv)
          rw [hv] at VW
          clear h5 hv t0 t1 t2
          generalize runKind l[n] = kd at *
          generalize l[n] = t at *
          by_cases hfull : acc.length = 600
          · have HR := Lib.hid (cutRes_many (s := s) (by rw [← HCUT.out]; exact procAt_many HN.out (by simp; omega)))
            have b6 : ((acc.length : Int) == 600) = true := by rw [beq_iff_eq]; omega
            clear hfull
            go_wp2_with fail
            refine WO.out.mono ?_
            rintro e w2 ⟨rfl, hb2⟩
            have hb3 := hb0.trans (hb2.mono hb0.size)
            have hb4 := hb3.alloc hb3.size (.cells #[.int .i64 kd, .string t] 76)
            have V2 := Lib.hid (VW _ (T.below hb4) (N.below hb4)).out
            clear VW hb hb0 hb2 hb3
            go_wp2_with fail
            refine V2.out.mono ?_
            rintro e w3 ⟨rfl, hb5⟩
            have hb6 := hb4.trans (hb5.mono hb4.size)
            clear hb4 hb5 V2
            go_wp2
            go_ret2
            rw [HR.out]
            exact ⟨⟨_, rfl, nil_own _ _⟩, hb6⟩
          · have b6 : ((acc.length : Int) == 600) = false := by rw [beq_eq_false_iff_ne]; omega
            have hacc' : acc.length < 600 := by omega
            clear hfull
            go_wp2_with fail
            refine WO.out.mono ?_
            rintro e w2 ⟨rfl, hb2⟩
            have HO2 := HO.out.kept (w' := w2) (row := none) ⟨hb2.os, hb2.tape, hb2.output, hb2.size, fun i hi _ => hb2.block i hi⟩ (Classical.em _)
            have HO3 := Lib.hid (HO2.alloc (.cells #[.int .i64 kd, .string t] 76))
            have hb3 := hb0.trans (hb2.mono hb0.size)
            have hb4 := hb3.alloc hb3.size (.cells #[.int .i64 kd, .string t] 76)
            have hc3 := hb.trans (hb2.mono hb.size)
            have hc4 := hc3.alloc hc3.size (.cells #[.int .i64 kd, .string t] 76)
            have V2 := Lib.hid (VW _ (T.below hb4) (N.below hb4)).out
            clear VW hb hb0 hb2 hb3 hc3 HO2
            go_wp2_with fail
            refine V2.out.mono ?_
            rintro e w3 ⟨rfl, hb5⟩
            obtain ⟨q0, q1, _, _⟩ := own_cells hb5
            have HO4 := Lib.hid (HO3.out.kept (w' := w3) (row := none) ⟨hb5.os, hb5.tape, hb5.output, hb5.size, fun i hi _ => hb5.block i hi⟩ (Classical.em _))
            have hc5 := hc4.trans (hb5.mono hc4.size)
            have HNW := Lib.hid (new_word w3 kd t)
            have HTO := Lib.hid (wordOne kd t)
            have hc6 := hc5.alloc hc5.size (.cells #[.int .i64 kd, .string t] 76)
            have hbz : w1.heap.size ≤ (w3.alloc (.cells #[.int .i64 kd, .string t] 76)).heap.size := hc6.size
            clear hb4 hb5 V2 hc4 hc5
            go_wp2_with (at_builtin; refine wpList_append_own _ rfl _ _ 38 rfl w1.heap.size 76 i0 (.agg #[.int .i64 0, .string ⟨#[]⟩]) 2 24 Tryz.underlying38 hi hz0 hz1 hz2 rfl (by decide) _ acc.length (wordCells acc) rfl (HO4.out.alloc _) ⟨w3.heap.size, 0, none⟩ 1 1 [.int .i64 kd, .string t] rfl rfl HNW.out HTO.out (by unfold maxLen; omega) (by omega) hbz ?_; intro v' w5 hown5 hgrow5 _)
            have hc8 := hc6.grown hgrow5 hbz (fun k e => ((HO4.out.alloc (.cells #[.int .i64 kd, .string t] 76)).lt k e).1)
            have HO5 := Lib.hid hown5
            clear hc6 hgrow5 hown5
            go_wp2
            go_roundw
            case rel => exact ⟨n + 1, acc ++ [(kd, t)], by omega, by go_num, HN.out, by simp; omega, by rw [wordCells_snoc, List.length_append]; exact HO5.out, hc8⟩
            case measure => simp only [intOf]; omega
    · obtain rfl : n = l.length := by omega
      have HR := Lib.hid (cutRes_yes hle (by rw [← HCUT.out]; exact procAt_end HAT.out) hacc)
      go_wp2
      go_ret2
      rw [HR.out]
      exact ⟨⟨_, rfl, ownsRow_base HO.out hbs1⟩, hb0⟩
end Go.Proofs.YtkhcfhhejmkikaaGreatDoor

namespace Go.Proofs.YtkhcfhhejmkikaaGreatDoor
open Go.RowKit
set_option maxRecDepth 100000

def marked (xs : List Value) (k0 k : Nat) : Prop := ∀ j, j < k → xs[j * 2]? = some (.int .i64 ((k0 + j * 2 : Nat) : Int)) ∧ xs[j * 2 + 1]? = some (.string (markB (k0 + j * 2 + 1)))
theorem marked_succ {xs : List Value} {k0 k n : Nat} (h : marked xs k0 k) (hl : xs.length = n * 2) (hk : k < n) :
    marked ((xs.set (k * 2) (.int .i64 ((k0 + k * 2 : Nat) : Int))).set (k * 2 + 1) (.string (markB (k0 + k * 2 + 1)))) k0 (k + 1) := by
  intro j hj
  simp only [List.getElem?_set, List.length_set]
  by_cases e : j = k
  · subst e
    refine ⟨?_, ?_⟩
    · rw [if_neg (by omega), if_pos rfl, if_pos (by omega)]
    · rw [if_pos rfl, if_pos (by omega)]
  · have := h j (by omega)
    refine ⟨?_, ?_⟩
    · rw [if_neg (by omega), if_neg (by omega)]; exact this.1
    · rw [if_neg (by omega), if_neg (by omega)]; exact this.2
def MarkWRet (base e n k0 : Nat) (v : Value) (w : World) (en : Ending) (w' : World) : Prop :=
  en = .returned (.int .i64 ((k0 + n * 2 : Nat) : Int)) ∧ (∃ xs', w'.ownsRow base e 2 v n xs' ∧ marked xs' k0 n) ∧ Below base w w'


end Go.Proofs.YtkhcfhhejmkikaaGreatDoor

namespace Go.Proofs.YtkhcfhhejmkikaaGreatDoor
open Go.RowKit
set_option maxRecDepth 100000

theorem words_own {w : World} {base e : Nat} {ws : List (Int × ByteArray)} {v : Value} (h : w.ownsRow base e 2 v ws.length (wordCells ws)) : ∃ A cap, v = .slice A ws.length cap ∧ Words w w.heap.size A ws := by
  rcases h.2 with ⟨rfl, h0⟩ | ⟨g, cap, cur, rfl, _⟩
  · exact ⟨none, 0, by rw [h0], fun hne => absurd (List.length_eq_zero_iff.1 h0) hne⟩
  · exact ⟨_, cap, rfl, Words.of_own h⟩
theorem cutRes_len (s : ByteArray) : (cutRes s).1.length ≤ 600 := by
  unfold cutRes
  split
  · simp
  · split
    · split
      · assumption
      · simp
    · simp
theorem words_self (ws : List (Int × ByteArray)) : decide (ws = ws) = true := by simp
theorem own_below {w w' : World} {base e size n : Nat} {v : Value} {xs : List Value} (h : w.ownsRow base e size v n xs) (hb : Below w.heap.size w w') : w'.ownsRow base e size v n xs :=
  h.kept (row := none) ⟨hb.os, hb.tape, hb.output, hb.size, fun i hi _ => hb.block i hi⟩ (Classical.em _)

end Go.Proofs.YtkhcfhhejmkikaaGreatDoor

namespace Go.Proofs.YtkhcfhhejmkikaaGreatDoor
open Go.RowKit
set_option maxRecDepth 100000

theorem procR_valid : ∀ (l : List ByteArray) (ws : List (Int × ByteArray)), procR l = some ws → ∀ x ∈ ws, validB x.1 x.2 = true
  | [], ws, h, x, hx => by
    have : ws = [] := (Option.some.inj h).symm
    subst this; cases hx
  | t :: r, ws, h, x, hx => by
    have e : procR (t :: r) = if runKind t = 5 then procR r else if validB (runKind t) t = true then (procR r).map ((runKind t, t) :: ·) else none := rfl
    rw [e] at h
    split at h
    · exact procR_valid r ws h x hx
    · split at h
      · rename_i hv
        obtain ⟨y, hy, rfl⟩ := Option.map_eq_some_iff.1 h
        rcases List.mem_cons.1 hx with rfl | hx
        · exact hv
        · exact procR_valid r y hy x hx
      · cases h
theorem cutRes_valid (s : ByteArray) : ∀ x ∈ (cutRes s).1, validB x.1 x.2 = true := by
  intro x hx
  unfold cutRes at hx
  split at hx
  · cases hx
  · split at hx
    · rename_i ws hc
      split at hx
      · exact procR_valid _ ws (by rw [cut_runs]; exact hc) x hx
      · cases hx
    · cases hx
/-- What PlainText returns. -/
noncomputable def plainF (s : ByteArray) : ByteArray × Bool := if (cutRes s).2 = true then joinF (cutRes s).1 else (⟨#[]⟩, false)

set_option maxHeartbeats 1000000 in
theorem implPlainText_any (s : ByteArray) (w : World) (hs : s.size ≤ 1048576) (T : Tabs w) (N : NTabs w) :
    Calls Tryz.prog 18 #[.string s] w (TextRet (plainF s) w) := by
  have SC := Lib.hid (implCutWords_any s w hs T N)
  have hlen := cutRes_len s
  have HV := Lib.hid (cutRes_valid s)
  unfold plainF
  generalize cutRes s = p at *
  obtain ⟨ws, ok⟩ := p
  have hlen' : ws.length ≤ 600 := hlen
  clear hlen
  cases ok
  · go_enter Tryz.func18, Tryz.ntmps18
    go_wp2_with fail
    refine SC.out.mono ?_
    rintro e w1 ⟨⟨v0, rfl, hO1⟩, hb1⟩
    clear SC hO1
    go_wp2
    go_ret2
    exact ⟨rfl, hb1⟩
  · go_enter Tryz.func18, Tryz.ntmps18
    go_wp2_with fail
    refine SC.out.mono ?_
    rintro e w1 ⟨⟨v0, rfl, hO1⟩, hb1⟩
    obtain ⟨A0, cap0, rfl, hW1⟩ := words_own hO1
    have SJ := Lib.hid (implJoinWords_any A0 ws cap0 w1 hW1 (fun x hx => by have := validB_size (HV.out x hx); omega) (by omega) (T.below hb1) (N.below hb1))
    have e1 : (if (ws, true).2 = true then joinF (ws, true).1 else (⟨#[]⟩, false)) = joinF ws := rfl
    have HE := Lib.hid e1
    clear e1 SC hO1 hW1
    generalize joinF ws = q at *
    obtain ⟨tx, fl⟩ := q
    go_wp2_with fail
    refine SJ.out.mono ?_
    rintro e w2 ⟨rfl, hb2⟩
    have hb3 := hb1.trans (hb2.mono hb1.size)
    clear hb1 hb2 SJ
    go_wp2
    go_ret2
    exact ⟨rfl, hb3⟩

end Go.Proofs.YtkhcfhhejmkikaaGreatDoor
