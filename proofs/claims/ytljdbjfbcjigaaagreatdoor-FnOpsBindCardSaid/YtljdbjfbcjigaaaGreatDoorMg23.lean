/-
  Words put behind a list by the program, by their texts: addTexts.
-/
import Derived.Test.YtljdbjfbcjigaaaGreatDoorMg16
import Derived.Test.YtljdbjfbcjigaaaGreatDoorMg18
import Derived.Test.YtljdbjfbcjigaaaGreatDoorMg22
import Derived.Test.YtljdbjfbcjigaaaGreatDoorMg6
namespace Go.Proofs.YtljdbjfbcjigaaaGreatDoor
open Go.RowKit
set_option maxRecDepth 100000

theorem progB_ask (p : List Fu) : progB p = (inB 1 (p.length : Int) 4 && (p.all fnB && decide (countP p ≤ 40))) := by
  unfold progB inB
  congr 1
  rw [Bool.eq_iff_iff, decide_eq_true_eq, decide_eq_true_eq]
  omega
def stmtCountI (p : List Fu) (b : Bool) : Int := if b then (countP p : Int) else -1
def nestI (p : List Fu) (b : Bool) : Int := if b then (nestP p : Int) else -1
set_option maxHeartbeats 2000000 in
theorem specProgramValid_any (p : List Fu) (hbk : bulkFL p ≤ 1048576) (v : Value) (w : World) (hV : PrV w (Lt w.heap.size) p v) :
    Calls Tryz.prog 73 #[v] w (BoolB (progB p) w) := by
  have CA := fun W (h : Below w.heap.size w W) => Lib.hid (l3All_any p hbk v W (hV.on h h.size))
  obtain ⟨A, c, rfl, hR⟩ := hV
  have HF := Lib.hid (progB_ask p)
  generalize progB p = res at *
  have hn : p.length ≤ 1048576 := by have := length_le_bulkFL p; omega
  have hcp : countP p ≤ 1048576 := by have := countP_bulk p; omega
  have HBK := Lib.hid hbk
  have HR := Lib.hid hR
  clear hR hbk
  obtain ⟨c0, hlt, hb⟩ := box1 w (.slice A p.length c) 43
  go_enter Tryz.func73, Tryz.ntmps73
  go_wp2_with fail
  generalize w.alloc (.cells #[.slice A p.length c] 43) = wa at *
  (with_reducible refine Calls.mono (l1In_b _ _ _ _) ?_)
  rintro ee w1 ⟨rfl, rfl⟩
  cases h1 : inB 1 (p.length : Int) 4
  · have HN := Lib.hid (show res = false by rw [HF.out, h1]; rfl)
    clear h1 CA
    go_wp2_with fail
    go_ret
    exact ⟨by rw [HN.out]; rfl, hb⟩
  have H1 := Lib.hid h1
  clear h1
  go_wp2_with fail
  go_loopw [3] (fun i wr => ∃ k : Nat, k ≤ p.length ∧ i = .int .i64 k ∧ allTo fnB p k ∧ Below wa.heap.size wa wr) (fun i _ => p.length - (intOf i).toNat)
  case atStart => exact ⟨0, Nat.zero_le _, rfl, allTo_zero _ _, Below.refl _ _⟩
  case round =>
    obtain ⟨k, hk, rfl, hall, hbr⟩ := hrel
    have HKT := Lib.hid hall
    have hbw := hb.trans (hbr.mono (Nat.le_of_lt hlt))
    have hbs := hbw.size
    have g0 := (hbr.cell (p := ⟨w.heap.size, 0, none⟩) hlt).trans c0
    clear hall
    by_cases hlk : k < p.length
    · have hbm := bulkFL_mem (List.getElem_mem hlk)
      obtain ⟨b, o, rfl, hB, d0, ⟨A1, p1, d1, r1⟩, A2, p2, d2, r2⟩ := (HR.out.on hbw hbs).at_ hlk
      have CK := l3Fn_any p[k] (by have := HBK.out; omega) _ wr ⟨A1, p1, A2, p2, rfl, r1, r2⟩
      clear r1 r2 hbm CA
      generalize hkd : p[k] = kid at *
      have HKD := Lib.hid hkd
      clear hkd
      cases hv : fnB kid
      · rw [hv] at CK
        have HN := Lib.hid (show res = false by rw [HF.out, H1.out, all_bad (p := fnB) hlk (by rw [HKD.out]; exact hv)]; rfl)
        clear hv HKD
        obtain ⟨s', a', b'⟩ := kid
        dsimp only at d0 d1 d2 CK
        replace CK := Lib.hid CK
        go_wp2_with ((go_at_call 117; (with_reducible refine Calls.mono CK.out ?_); rintro ee w2 ⟨rfl, hb2⟩; have hb3 := hbw.trans (hb2.mono hbs)))
        go_ret
        exact ⟨by rw [HN.out]; rfl, hb3⟩
      · rw [hv] at CK
        have HN := Lib.hid (allTo_succ HKT.out hlk (by rw [HKD.out]; exact hv))
        clear hv HKD
        obtain ⟨s', a', b'⟩ := kid
        dsimp only at d0 d1 d2 CK
        replace CK := Lib.hid CK
        go_wp2_with ((go_at_call 117; (with_reducible refine Calls.mono CK.out ?_); rintro ee w2 ⟨rfl, hb2⟩; have hb3 := hbr.trans (hb2.mono hbr.size)))
        go_roundw
        case rel => exact ⟨k + 1, by omega, by go_num, HN.out, hb3⟩
        case measure => simp only [intOf]; omega
    · obtain rfl : k = p.length := by omega
      have HN := Lib.hid (show res = decide (countP p ≤ 40) by rw [HF.out, H1.out, all_of HKT.out]; rfl)
      have CA1 := Lib.hid (CA _ hbw).out
      clear CA HF H1 HR HBK HKT
      generalize countP p = m at *
      by_cases hm : (m : Int) ≤ 40
      · have HN2 := Lib.hid (HN.out.trans (decide_eq_true (by omega)))
        clear HN
        go_wp2_with ((go_at_call 118; (with_reducible refine Calls.mono CA1.out ?_); rintro ee w2 ⟨rfl, hb2⟩; have hb3 := hbw.trans (hb2.mono hbs)))
        go_ret
        exact ⟨by rw [HN2.out]; rfl, hb3⟩
      · have HN2 := Lib.hid (HN.out.trans (decide_eq_false (by omega)))
        clear HN
        go_wp2_with ((go_at_call 118; (with_reducible refine Calls.mono CA1.out ?_); rintro ee w2 ⟨rfl, hb2⟩; have hb3 := hbw.trans (hb2.mono hbs)))
        go_ret
        exact ⟨by rw [HN2.out]; exact ret_bool (decide_eq_false (by omega)), hb3⟩
end Go.Proofs.YtljdbjfbcjigaaaGreatDoor

namespace Go.Proofs.YtljdbjfbcjigaaaGreatDoor
open Go.RowKit
set_option maxRecDepth 100000

/-- Three cells of a block. -/
def Tri (w : World) (k : Nat) (v0 v1 v2 : Value) : Prop := w.cell? ⟨k, 0, none⟩ = some v0 ∧ w.cell? ⟨k, 1, none⟩ = some v1 ∧ w.cell? ⟨k, 2, none⟩ = some v2
theorem Tri.new (w : World) (v0 v1 v2 : Value) (t : TypeId) : Tri (w.alloc (.cells #[v0, v1, v2] t)) w.heap.size v0 v1 v2 := ⟨alloc_cell w _ _ _ 0, alloc_cell w _ _ _ 1, alloc_cell w _ _ _ 2⟩
theorem Tri.below {w w' : World} {B k : Nat} {v0 v1 v2 : Value} (h : Tri w k v0 v1 v2) (hb : Below B w w') (hk : k < B) : Tri w' k v0 v1 v2 :=
  ⟨(hb.cell (p := ⟨k, _, none⟩) hk).trans h.1, (hb.cell (p := ⟨k, _, none⟩) hk).trans h.2.1, (hb.cell (p := ⟨k, _, none⟩) hk).trans h.2.2⟩
theorem ba_size (a b : ByteArray) : (a ++ b).size = a.size + b.size := ByteArray.size_append
theorem ba_nil (a : ByteArray) : (⟨#[]⟩ : ByteArray) ++ a = a := by apply ba_ext; simp
theorem tx_nil : tx [] = ⟨#[]⟩ := rfl
theorem first_text (u : ByteArray) : tx (wP ([] : List Fu)) ++ u = u := by show tx [] ++ u = u; rw [tx_nil, ba_nil]
theorem zero_text {p : List Fu} {k : Nat} (h : k = 0) (hlk : k < p.length) : tx (wP (p.take (k + 1))) = tx (wP (p.take k)) ++ tx (wF p[k]) := by
  subst h
  rw [wP_take hlk]
  exact (first_text _).symm
theorem wP_take_ne {p : List Fu} {k : Nat} (h : 0 < k) (h2 : k ≤ p.length) : wP (p.take k) ≠ [] := by
  match p, k, h with
  | [], k, h => simp at h2; omega
  | f :: p, k + 1, _ => show wF f ++ wP (p.take k) ≠ []; simp [wF_ne]
theorem head_text (u : ByteArray) (f : Fu) : ((u ++ ⟨#[102, 110, 32]⟩) ++ f.name) ++ ⟨#[32, 40]⟩ = u ++ tx (headFW f ++ parTo f.params 0) := by
  rw [parTo_zero, List.append_nil]
  apply ba_ext
  have h : joinB (headFW f) = [102, 110, 32] ++ (f.name.data.toList ++ [32, 40]) := by
    unfold headFW
    rw [joinB_cons _ (by simp), joinB_cons _ (by simp), joinB_single]
    simp [fnS, lpS]
  simp [tx_list, h]
theorem par_text (u : ByteArray) (f : Fu) {j : Nat} (h : j < f.params.length) : u ++ tx (headFW f ++ parTo f.params (j + 1)) = (if j = 0 then (u ++ tx (headFW f ++ parTo f.params j)) ++ ⟨#[32]⟩ else ((u ++ tx (headFW f ++ parTo f.params j)) ++ ⟨#[32, 44]⟩) ++ ⟨#[32]⟩) ++ f.params[j] := by
  have hne : headFW f ≠ [] := by unfold headFW; simp
  by_cases h0 : j = 0
  · subst h0
    rw [if_pos rfl, parTo_first h, parTo_zero, List.append_nil]
    apply ba_ext
    simp [tx_list, joinB_app hne (show [((1 : Int), f.params[0])] ≠ [] by simp), joinB_single]
  · rw [if_neg h0, parTo_next h (by omega), ← List.append_assoc]
    have hne2 : headFW f ++ parTo f.params j ≠ [] := by simp [hne]
    apply ba_ext
    simp only [tx_list, joinB_app hne2 (show [((3 : Int), cmS), (1, f.params[j])] ≠ [] by simp), joinB_cons (3, cmS) (show [((1 : Int), f.params[j])] ≠ [] by simp), joinB_single, ByteArray.data_append, Array.toList_append]
    simp [cmS]
theorem end_text (u : ByteArray) (f : Fu) : u ++ tx (wF f) = ((u ++ tx (headFW f ++ parTo f.params f.params.length)) ++ ⟨#[32, 41, 32]⟩) ++ tx (blkW f.body) := by
  have hne : headFW f ++ parTo f.params f.params.length ≠ [] := by unfold headFW; simp
  have e : wF f = (headFW f ++ parTo f.params f.params.length) ++ (3, rpS) :: blkW f.body := by unfold wF; rw [List.append_assoc]
  apply ba_ext
  rw [e]
  simp only [tx_list, joinB_app hne (show (3, rpS) :: blkW f.body ≠ [] by simp), joinB_cons (3, rpS) (blkW_ne f.body), ByteArray.data_append, Array.toList_append]
  simp [rpS]
theorem par_size {f : Fu} (h : nameB f.name = true ∧ f.params.length ≤ 3 ∧ (∀ s ∈ f.params, nameB s = true) ∧ (∀ t ∈ f.body, formT 4 t = true)) {j : Nat} (hj : j ≤ f.params.length) : (tx (headFW f ++ parTo f.params j)).size ≤ 1000 := by
  have h1 := tx_size ((headFW_valid h.1).app (parTo_valid h.2.2.1 j))
  have h2 := parTo_len f.params j hj
  rw [List.length_append] at h1
  have h3 : (headFW f).length = 3 := rfl
  omega
theorem wP_size {p : List Fu} (h : ∀ f ∈ p, fnB f = true) (hl : p.length ≤ 4) (hc : countP p ≤ 40) (k : Nat) : (tx (wP (p.take k))).size ≤ 200000 := by
  have h1 : ∀ f ∈ p.take k, fnB f = true := fun f hf => h f (List.mem_of_mem_take hf)
  have h2 := tx_size (wP_valid h1)
  have h3 := wP_len h1
  have h4 := countP_take_le p k
  have h5 : (p.take k).length ≤ p.length := by rw [List.length_take]; omega
  omega
set_option maxHeartbeats 8000000 in
theorem l3Text_any (p : List Fu) (hp : ∀ f ∈ p, fnB f = true) (hl4 : p.length ≤ 4) (hcp : countP p ≤ 40) (hbk : bulkFL p ≤ 1048576) (v : Value) (w : World) (hV : PrV w (Lt w.heap.size) p v) :
    Calls Tryz.prog 75 #[v] w (StrB (tx (wP p)) w) := by
  obtain ⟨A, c, rfl, hR⟩ := hV
  have hb0 := (Below.refl w.heap.size w).alloc (Nat.le_refl _) (.cells #[.slice A p.length c] 43)
  have c0 : (w.alloc (.cells #[.slice A p.length c] 43)).cell? ⟨w.heap.size, 0, none⟩ = some (.slice A p.length c) := alloc_cell w _ _ (0, 0) 0
  have hlt : w.heap.size < (w.alloc (.cells #[.slice A p.length c] 43)).heap.size := by rw [World.size_alloc]; omega
  have HP := Lib.hid hp
  have HBK := Lib.hid (And.intro hbk hcp)
  have HR := Lib.hid hR
  have HSZ := Lib.hid (show ∀ k, (tx (wP (p.take k))).size ≤ 200000 from fun k => wP_size hp hl4 hcp k)
  have HB0 := Lib.hid hb0
  clear hp hR hbk hcp hb0
  go_enter Tryz.func75, Tryz.ntmps75
  go_wp2_with fail
  generalize w.alloc (.cells #[.slice A p.length c] 43) = w0 at *
  go_loopw [3, 4] (fun s i wr => ∃ k : Nat, k ≤ p.length ∧ i = .int .i64 k ∧ s = .string (tx (wP (p.take k))) ∧ Below w0.heap.size w0 wr) (fun _ i _ => p.length - (intOf i).toNat)
  case atStart => exact ⟨0, Nat.zero_le _, rfl, rfl, Below.refl _ _⟩
  case round =>
    obtain ⟨k, hk, rfl, rfl, hb⟩ := hrel
    have hbw := HB0.out.trans (hb.mono HB0.out.size)
    have hs0 := HSZ.out k
    have x0 := (hb.cell (p := ⟨w.heap.size, 0, none⟩) hlt).trans c0
    by_cases hlk : k < p.length
    · obtain ⟨b, o, rfl, hB, d0, ⟨A1, p1, d1, r1⟩, A2, p2, d2, r2⟩ := (HR.out.on hbw hbw.size).at_ hlk
      have hfn := fn_parts (HP.out _ (List.getElem_mem hlk))
      have hfb := hfn.2.2.2
      have hsb : sizeTL p[k].body ≤ 40 := by have h1 := countP_take hlk; have h2 := countP_take_le p (k + 1); have h3 := HBK.out.2; omega
      have hkb : bulkTL p[k].body ≤ 1048576 := by have h1 := bulkFL_mem (List.getElem_mem hlk); have h2 := HBK.out.1; unfold bulkF at h1; omega
      clear hbw
      rcases Nat.eq_zero_or_pos k with hi0 | hi0
      · have hkk : k ≤ 0 := by omega
        have HPQ := Lib.hid (show tx (wP (p.take (k + 1))) = tx (wP (p.take k)) ++ tx (wF p[k]) from zero_text hi0 hlk)
        have hsq : (tx (wP (p.take k))).size ≤ 200001 := by omega
        have HQ0 := Lib.hid (show ((tx (wP (p.take k)) ++ ⟨#[102, 110, 32]⟩) ++ p[k].name) ++ ⟨#[32, 40]⟩ = tx (wP (p.take k)) ++ tx (headFW p[k] ++ parTo p[k].params 0) from head_text _ _)
        clear hi0
        have HI := Lib.hid (show ∀ j, (h : j < p[k].params.length) → tx (wP (p.take k)) ++ tx (headFW p[k] ++ parTo p[k].params (j + 1)) = (if j = 0 then (tx (wP (p.take k)) ++ tx (headFW p[k] ++ parTo p[k].params j)) ++ ⟨#[32]⟩ else ((tx (wP (p.take k)) ++ tx (headFW p[k] ++ parTo p[k].params j)) ++ ⟨#[32, 44]⟩) ++ ⟨#[32]⟩) ++ p[k].params[j] from fun j h => par_text _ _ h)
        have HSJ := Lib.hid (show ∀ j, j ≤ p[k].params.length → (tx (headFW p[k] ++ parTo p[k].params j)).size ≤ 1000 from fun j h => par_size hfn h)
        have HEND := Lib.hid (show tx (wP (p.take k)) ++ tx (wF p[k]) = ((tx (wP (p.take k)) ++ tx (headFW p[k] ++ parTo p[k].params p[k].params.length)) ++ ⟨#[32, 41, 32]⟩) ++ tx (blkW p[k].body) from end_text _ _)
        have hbz := blk_size hfb (by omega)
        have BX := fun W (h : Below wr.heap.size wr W) => Lib.hid (l3Block_any 4 p[k].body hfb (by omega) (by omega) A2 p2 W (r2.on h h.size))
        have RP := Lib.hid (show ∀ W, Below wr.heap.size wr W → StrS W (Lt W.heap.size) p[k].params A1 from fun W h => r1.on h h.size)
        have hnm : p[k].name.size ≤ 4 := name_size hfn.1
        have hpn : p[k].params.length ≤ 3 := hfn.2.1
        have hps := Lib.hid (show ∀ j, (h : j < p[k].params.length) → (p[k].params[j]).size ≤ 4 from fun j h => name_size (hfn.2.2.1 _ (List.getElem_mem h)))
        clear r1 r2 hfn hfb
        generalize hkd : p[k] = kid at *
        clear hkd
        obtain ⟨nm, ps, bd⟩ := kid
        dsimp only at d0 d1 d2 HPQ HQ0 HI HSJ HEND hbz BX RP hnm hpn hps
        generalize tx (wP (p.take k)) = t0 at *
        generalize tx (wF ⟨nm, ps, bd⟩) = tf at *
        generalize tx (blkW bd) = tb at *
        generalize bd.length = n2 at *
        have hal := (Below.refl wr.heap.size wr).alloc (Nat.le_refl _) (.cells #[.string nm, .slice A1 ps.length p1, .slice A2 n2 p2] 70)
        have G3 := Lib.hid (Tri.new wr (.string nm) (.slice A1 ps.length p1) (.slice A2 n2 p2) 70)
        have hzl : wr.heap.size < (wr.alloc (.cells #[.string nm, .slice A1 ps.length p1, .slice A2 n2 p2] 70)).heap.size := by rw [World.size_alloc]; omega
        obtain ⟨g0, g1, g2⟩ := G3.out
        go_wp2_with fail
        have HWA := Lib.hid hal
        clear g0 g1 g2 hal d0 d1 d2
        generalize wr.alloc (.cells #[.string nm, .slice A1 ps.length p1, .slice A2 n2 p2] 70) = wa at *
        go_loopw [3, 6] (fun s i wx => ∃ j : Nat, j ≤ ps.length ∧ i = .int .i64 j ∧ s = .string (t0 ++ tx (headFW ⟨nm, ps, bd⟩ ++ parTo ps j)) ∧ Below wa.heap.size wa wx) (fun _ i _ => ps.length - (intOf i).toNat)
        case atStart => exact ⟨0, Nat.zero_le _, rfl, congrArg Value.string HQ0.out, Below.refl _ _⟩
        case round =>
          obtain ⟨j, hj, rfl, rfl, hbx⟩ := hrel
          obtain ⟨g0, g1, g2⟩ := G3.out.below hbx hzl
          have hsj := HSJ.out j hj
          have hbw := HWA.out.trans (hbx.mono HWA.out.size)
          by_cases hlj : j < ps.length
          · obtain ⟨b', o', rfl, hB', e0⟩ := (RP.out _ hbw).at_ hlj
            have HN := Lib.hid (HI.out j hlj)
            have hsp := hps.out j hlj
            generalize ps[j] = pj at *
            generalize tx (headFW ⟨nm, ps, bd⟩ ++ parTo ps j) = tj at *
            rcases Nat.eq_zero_or_pos j with hj0 | hj0
            · have HN1 := Lib.hid (HN.out.trans (by rw [if_pos hj0]))
              have hjj : j ≤ 0 := by omega
              clear hj0
              go_wp2_with fail
              go_roundw
              case rel => exact ⟨j + 1, by omega, by go_num, by rw [HN1.out], hbx⟩
              case measure => simp only [intOf]; omega
            · have HN1 := Lib.hid (HN.out.trans (by rw [if_neg (by omega)]))
              go_wp2_with fail
              go_roundw
              case rel => exact ⟨j + 1, by omega, by go_num, by rw [HN1.out], hbx⟩
              case measure => simp only [intOf]; omega
          · obtain rfl : j = ps.length := by omega
            generalize tx (headFW ⟨nm, ps, bd⟩ ++ parTo ps ps.length) = tj at *
            have BX1 := Lib.hid (BX wr hbw).out
            clear BX RP HI HSJ HQ0
            go_wp2_with fail
            (with_reducible refine Calls.mono BX1.out ?_)
            rintro ee w5 ⟨rfl, hb5⟩
            have hb6 := hb.trans ((hbw.trans (hb5.mono hbw.size)).mono hb.size)
            clear BX1 hb5 g0 g1 g2
            go_wp2_with fail
            go_roundw
            case rel => exact ⟨k + 1, by omega, by go_num, congrArg Value.string (HPQ.out.trans HEND.out).symm, hb6⟩
            case measure => simp only [intOf]; omega
      ·
        have HPQ := Lib.hid (show tx (wP (p.take (k + 1))) = (tx (wP (p.take k)) ++ ⟨#[32]⟩) ++ tx (wF p[k]) from by rw [wP_take hlk, tx_app (wP_take_ne (by omega) (by omega)) (wF_ne _)])
        have hsq : ((tx (wP (p.take k)) ++ ⟨#[32]⟩)).size ≤ 200001 := by rw [ba_size]; show (tx (wP (p.take k))).size + 1 ≤ 200001; omega
        have HQ0 := Lib.hid (show (((tx (wP (p.take k)) ++ ⟨#[32]⟩) ++ ⟨#[102, 110, 32]⟩) ++ p[k].name) ++ ⟨#[32, 40]⟩ = (tx (wP (p.take k)) ++ ⟨#[32]⟩) ++ tx (headFW p[k] ++ parTo p[k].params 0) from head_text _ _)
        have HI := Lib.hid (show ∀ j, (h : j < p[k].params.length) → (tx (wP (p.take k)) ++ ⟨#[32]⟩) ++ tx (headFW p[k] ++ parTo p[k].params (j + 1)) = (if j = 0 then ((tx (wP (p.take k)) ++ ⟨#[32]⟩) ++ tx (headFW p[k] ++ parTo p[k].params j)) ++ ⟨#[32]⟩ else (((tx (wP (p.take k)) ++ ⟨#[32]⟩) ++ tx (headFW p[k] ++ parTo p[k].params j)) ++ ⟨#[32, 44]⟩) ++ ⟨#[32]⟩) ++ p[k].params[j] from fun j h => par_text _ _ h)
        have HSJ := Lib.hid (show ∀ j, j ≤ p[k].params.length → (tx (headFW p[k] ++ parTo p[k].params j)).size ≤ 1000 from fun j h => par_size hfn h)
        have HEND := Lib.hid (show (tx (wP (p.take k)) ++ ⟨#[32]⟩) ++ tx (wF p[k]) = (((tx (wP (p.take k)) ++ ⟨#[32]⟩) ++ tx (headFW p[k] ++ parTo p[k].params p[k].params.length)) ++ ⟨#[32, 41, 32]⟩) ++ tx (blkW p[k].body) from end_text _ _)
        have hbz := blk_size hfb (by omega)
        have BX := fun W (h : Below wr.heap.size wr W) => Lib.hid (l3Block_any 4 p[k].body hfb (by omega) (by omega) A2 p2 W (r2.on h h.size))
        have RP := Lib.hid (show ∀ W, Below wr.heap.size wr W → StrS W (Lt W.heap.size) p[k].params A1 from fun W h => r1.on h h.size)
        have hnm : p[k].name.size ≤ 4 := name_size hfn.1
        have hpn : p[k].params.length ≤ 3 := hfn.2.1
        have hps := Lib.hid (show ∀ j, (h : j < p[k].params.length) → (p[k].params[j]).size ≤ 4 from fun j h => name_size (hfn.2.2.1 _ (List.getElem_mem h)))
        clear r1 r2 hfn hfb
        generalize hkd : p[k] = kid at *
        clear hkd
        obtain ⟨nm, ps, bd⟩ := kid
        dsimp only at d0 d1 d2 HPQ HQ0 HI HSJ HEND hbz BX RP hnm hpn hps
        generalize tx (wP (p.take k)) = t0 at *
        generalize tx (wF ⟨nm, ps, bd⟩) = tf at *
        generalize tx (blkW bd) = tb at *
        generalize bd.length = n2 at *
        have hal := (Below.refl wr.heap.size wr).alloc (Nat.le_refl _) (.cells #[.string nm, .slice A1 ps.length p1, .slice A2 n2 p2] 70)
        have G3 := Lib.hid (Tri.new wr (.string nm) (.slice A1 ps.length p1) (.slice A2 n2 p2) 70)
        have hzl : wr.heap.size < (wr.alloc (.cells #[.string nm, .slice A1 ps.length p1, .slice A2 n2 p2] 70)).heap.size := by rw [World.size_alloc]; omega
        obtain ⟨g0, g1, g2⟩ := G3.out
        go_wp2_with fail
        have HWA := Lib.hid hal
        clear g0 g1 g2 hal d0 d1 d2
        generalize wr.alloc (.cells #[.string nm, .slice A1 ps.length p1, .slice A2 n2 p2] 70) = wa at *
        go_loopw [3, 6] (fun s i wx => ∃ j : Nat, j ≤ ps.length ∧ i = .int .i64 j ∧ s = .string ((t0 ++ ⟨#[32]⟩) ++ tx (headFW ⟨nm, ps, bd⟩ ++ parTo ps j)) ∧ Below wa.heap.size wa wx) (fun _ i _ => ps.length - (intOf i).toNat)
        case atStart => exact ⟨0, Nat.zero_le _, rfl, congrArg Value.string HQ0.out, Below.refl _ _⟩
        case round =>
          obtain ⟨j, hj, rfl, rfl, hbx⟩ := hrel
          obtain ⟨g0, g1, g2⟩ := G3.out.below hbx hzl
          have hsj := HSJ.out j hj
          have hbw := HWA.out.trans (hbx.mono HWA.out.size)
          by_cases hlj : j < ps.length
          · obtain ⟨b', o', rfl, hB', e0⟩ := (RP.out _ hbw).at_ hlj
            have HN := Lib.hid (HI.out j hlj)
            have hsp := hps.out j hlj
            generalize ps[j] = pj at *
            generalize tx (headFW ⟨nm, ps, bd⟩ ++ parTo ps j) = tj at *
            rcases Nat.eq_zero_or_pos j with hj0 | hj0
            · have HN1 := Lib.hid (HN.out.trans (by rw [if_pos hj0]))
              have hjj : j ≤ 0 := by omega
              clear hj0
              go_wp2_with fail
              go_roundw
              case rel => exact ⟨j + 1, by omega, by go_num, by rw [HN1.out], hbx⟩
              case measure => simp only [intOf]; omega
            · have HN1 := Lib.hid (HN.out.trans (by rw [if_neg (by omega)]))
              go_wp2_with fail
              go_roundw
              case rel => exact ⟨j + 1, by omega, by go_num, by rw [HN1.out], hbx⟩
              case measure => simp only [intOf]; omega
          · obtain rfl : j = ps.length := by omega
            generalize tx (headFW ⟨nm, ps, bd⟩ ++ parTo ps ps.length) = tj at *
            have BX1 := Lib.hid (BX wr hbw).out
            clear BX RP HI HSJ HQ0
            go_wp2_with fail
            (with_reducible refine Calls.mono BX1.out ?_)
            rintro ee w5 ⟨rfl, hb5⟩
            have hb6 := hb.trans ((hbw.trans (hb5.mono hbw.size)).mono hb.size)
            clear BX1 hb5 g0 g1 g2
            go_wp2_with fail
            go_roundw
            case rel => exact ⟨k + 1, by omega, by go_num, congrArg Value.string (HPQ.out.trans HEND.out).symm, hb6⟩
            case measure => simp only [intOf]; omega
    · obtain rfl : k = p.length := by omega
      rw [List.take_length] at *
      generalize tx (wP p) = tp at *
      go_wp2_with fail
      go_ret
      exact ⟨rfl, hbw⟩
set_option maxHeartbeats 2000000 in
theorem specProgramText_any (p : List Fu) (hbk : bulkFL p ≤ 1048576) (v : Value) (w : World) (hV : PrV w (Lt w.heap.size) p v) :
    Calls Tryz.prog 33 #[v] w (TextRet (textP p) w) := by
  have CV := fun W (h : Below w.heap.size w W) => specProgramValid_any p hbk v W (hV.on h h.size)
  have CT := fun (hv : progB p = true) W (h : Below w.heap.size w W) => l3Text_any p (prog_parts hv).2.1 (prog_parts hv).1.2 (prog_parts hv).2.2 hbk v W (hV.on h h.size)
  obtain ⟨A, c, rfl, _⟩ := hV
  have hb0 := (Below.refl w.heap.size w).alloc (Nat.le_refl _) (.cells #[.slice A p.length c] 43)
  have c0 : (w.alloc (.cells #[.slice A p.length c] 43)).cell? ⟨w.heap.size, 0, none⟩ = some (.slice A p.length c) := alloc_cell w _ _ (0, 0) 0
  have hlt : w.heap.size < (w.alloc (.cells #[.slice A p.length c] 43)).heap.size := by rw [World.size_alloc]; omega
  have CV1 := CV _ hb0
  clear CV
  cases hv : progB p
  · rw [hv] at CV1
    have HT := Lib.hid (show textP p = (⟨#[]⟩, false) by unfold textP; rw [hv]; rfl)
    replace CV1 := Lib.hid CV1
    clear hv CT
    go_enter Tryz.func33, Tryz.ntmps33
    go_wp2_with fail
    (with_reducible refine Calls.mono CV1.out ?_)
    rintro ee w1 ⟨rfl, hb1⟩
    have hb2 := hb0.trans (hb1.mono (Nat.le_of_lt hlt))
    go_wp2_with fail
    go_ret2
    exact ⟨by rw [HT.out]; rfl, hb2⟩
  · rw [hv] at CV1
    obtain ⟨hl, hf, hc⟩ := prog_parts hv
    have hsz := wP_size hf hl.2 hc p.length
    rw [List.take_length] at hsz
    have PL := fun W => Lib.hid (specPlainText_any (tx (wP p)) W (by omega))
    rw [plain_tx (wP_valid hf)] at PL
    have HT := Lib.hid (show textP p = joinF (wP p) by unfold textP; rw [hv]; rfl)
    replace CV1 := Lib.hid CV1
    replace CT := fun W h => Lib.hid (CT hv W h)
    generalize tx (wP p) = tp at *
    generalize joinF (wP p) = jp at *
    clear hv hl hf hc
    go_enter Tryz.func33, Tryz.ntmps33
    go_wp2_with fail
    (with_reducible refine Calls.mono CV1.out ?_)
    rintro ee w1 ⟨rfl, hb1⟩
    have hb2 := hb0.trans (hb1.mono (Nat.le_of_lt hlt))
    have x0 := (hb1.cell (p := ⟨w.heap.size, 0, none⟩) hlt).trans c0
    have CT1 := Lib.hid (CT w1 hb2).out
    clear CT CV1 hb0 hb1
    go_wp2_with fail
    (with_reducible refine Calls.mono CT1.out ?_)
    rintro ee w3 ⟨rfl, hb3⟩
    have hb4 := hb2.trans (hb3.mono hb2.size)
    clear CT1 hb2 hb3
    go_wp2_with fail
    (with_reducible refine Calls.mono (PL w3).out ?_)
    rintro ee w5 ⟨rfl, hb5⟩
    have hb6 := hb4.trans (hb5.mono hb4.size)
    go_wp2_with fail
    go_ret2
    exact ⟨by rw [HT.out]; rfl, hb6⟩
end Go.Proofs.YtljdbjfbcjigaaaGreatDoor

namespace Go.Proofs.YtljdbjfbcjigaaaGreatDoor
open Go.RowKit Go.Maps
set_option maxRecDepth 100000

theorem runKind_sign {b : UInt8} (h : cls b.toNat = 3) : runKind ⟨#[b]⟩ = 3 := by
  have hk : isKeyB ⟨#[b]⟩ = false := by simp [isKeyB, keyL]
  unfold runKind
  rw [hk, if_neg (by simp), dif_pos (show 0 < (⟨#[b]⟩ : ByteArray).size from Nat.zero_lt_one)]
  have e : (⟨#[b]⟩ : ByteArray)[0]'(Nat.zero_lt_one) = b := rfl
  rw [e, kindN_cls _ (by have := b.toNat_lt; omega), h]
  rfl
theorem runKind_sgn {op : Int} (h : 3 ≤ op ∧ op ≤ 12) : runKind (sgnS op) = 3 := runKind_sign (sgn_cls h)
open Classical in
theorem runKind_name {s : ByteArray} (h : nameB s = true) : runKind s = 1 := by
  unfold nameB at h
  simp only [Bool.and_eq_true, Bool.not_eq_true'] at h
  obtain ⟨⟨h1, _⟩, h3⟩ := h
  unfold allB at h1
  rw [decide_eq_true_eq] at h1
  unfold runKind
  rw [h3, if_neg (by simp), dif_pos h1.1]
  have hc := h1.2 0 h1.1 h1.1
  exact (kindN_one _).2 hc
theorem runKind_num : ∀ m < 256, runKind (decS m) = 2 := by decide +kernel
open Classical in
theorem name_pos {s : ByteArray} (h : nameB s = true) : 0 < s.size := by
  unfold nameB at h
  simp only [Bool.and_eq_true] at h
  have h1 := h.1.1
  unfold allB at h1
  rw [decide_eq_true_eq] at h1
  exact h1.1
theorem dec_pos : ∀ m < 256, 0 < (decS m).size := by decide +kernel
theorem WRow.below {w w' : World} {base : Nat} {v : Value} {l : List W} (h : WRow w base v l) (hb : Below w.heap.size w w') : WRow w' base v l :=
  World.ownsRow.kept (row := none) h ⟨hb.os, hb.tape, hb.output, hb.size, fun i hi _ => hb.block i hi⟩ (Classical.em _)
theorem WRow.nil (w : World) (base : Nat) : WRow w base (.slice none 0 0) [] := ⟨rfl, .inl ⟨rfl, rfl⟩⟩
theorem Put.ne {base : Nat} {v v' : Value} {w w' : World} (h : Put base v v' w w') {k : Nat} (hk : k < w.heap.size) (hne : v.ownBlock ≠ some k) : v'.ownBlock ≠ some k := by
  rcases h.own with e | ⟨g, e, hg⟩
  · rw [e]; exact hne
  · rw [e]; intro e2; injection e2 with e2; omega
/-- What the world keeps for a callee. -/
def Env (base : Nat) (w : World) : Prop := base ≤ w.heap.size ∧ ∀ W, Below base w W → Sgn W ∧ Lib.TabIs Tryz.prog W "internal/strconv.uint64pow10" .u64 Lib.pow10Tab ∧ Tabs W
theorem Env.next {base : Nat} {w w' : World} (h : Env base w) (hb : Below base w w') : Env base w' := ⟨Nat.le_trans h.1 hb.size, fun W hw => h.2 W (hb.trans hw)⟩
/-- Texts as words. -/
def wd (t : ByteArray) : W := (runKind t, t)
set_option maxHeartbeats 4000000 in
theorem addTexts_any (base g cap : Nat) (v : Value) (l : List W) (ts : List ByteArray) (w : World) (hW : WRow w base v l) (hE : Env base w) (hg : v.ownBlock ≠ some g) (hgl : g < w.heap.size)
    (hc : ∀ k, (h : k < ts.length) → w.cell? ⟨g, k, none⟩ = some (.string ts[k])) (h0 : ∀ t ∈ ts, 0 < t.size) (hl : l.length + ts.length ≤ 1000001) :
    Calls Tryz.prog 97 #[v, .slice (some ⟨g, 0, none⟩) ts.length cap] w (AddRet base v (l ++ ts.map wd) w) := by
  obtain ⟨i0, hi, hz0, hz1, hz2⟩ := info_parts wordInfo
  have HW := Lib.hid hW
  have HE := Lib.hid hE
  have HC := Lib.hid hc
  have H0 := Lib.hid h0
  have hbs := hE.1
  have HP0 := Lib.hid (Put.of_below (v := v) (Below.refl _ w) hbs)
  clear hW hE hc h0
  go_enter Tryz.func97, Tryz.ntmps97
  go_wp2_with fail
  go_loopw [0, 9] (fun q i wr => ∃ k : Nat, k ≤ ts.length ∧ i = .int .i64 k ∧ WRow wr base q (l ++ (ts.take k).map wd) ∧ Put base v q w wr) (fun _ i _ => ts.length - (intOf i).toNat)
  case atStart => exact ⟨0, Nat.zero_le _, rfl, by rw [List.take_zero, List.map_nil, List.append_nil]; exact HW.out, HP0.out⟩
  case round =>
    obtain ⟨k, hk, rfl, hWr, hP⟩ := hrel
    have HWr := Lib.hid hWr
    have HP := Lib.hid hP
    have hbw := hP.below
    have hbr := Nat.le_trans hbs hbw.size
    by_cases hlk : k < ts.length
    · have c0 := (hP.cell (o := k) hgl hg).trans (HC.out k hlk)
      have hpos := H0.out _ (List.getElem_mem hlk)
      have WO := Lib.hid (wordOf_any ts[k] wr hpos ((HE.out.2 wr hbw).2.2))
      have HN := Lib.hid (show l ++ (ts.take (k + 1)).map wd = (l ++ (ts.take k).map wd) ++ [(runKind ts[k], ts[k])] by rw [List.take_succ_eq_append_getElem hlk, List.map_append, List.append_assoc]; rfl)
      have hlen : (l ++ (ts.take k).map wd).length ≤ 1000000 := by rw [List.length_append, List.length_map, List.length_take]; omega
      have HLEN := Lib.hid hlen
      clear hWr hP hpos hlen
      generalize ts[k] = t at *
      generalize runKind t = z at *
      generalize l ++ (ts.take k).map wd = lk at *
      go_wp2_with fail
      (with_reducible refine Calls.mono WO.out ?_)
      rintro ee w1 ⟨rfl, hb1⟩
      have HW1 := Lib.hid (HWr.out.below hb1)
      have hbs1 : base ≤ w1.heap.size := Nat.le_trans hbr hb1.size
      have HP1 := Lib.hid (HP.out.trans (Put.of_below hb1 hbr))
      have HNW := Lib.hid (new_word' w1 z t)
      have HTO := Lib.hid (wordOne' z t)
      have hbz : base ≤ (w1.alloc (.cells #[.int .i64 z, .string t] 138)).heap.size := by rw [World.size_alloc]; omega
      have hln : lk.length ≤ 1000000 := HLEN.out
      clear hb1 c0
      go_wp2_with (at_builtin; refine wpList_append_own_at _ rfl _ _ 88 rfl base 138 i0 (.agg #[.int .i64 0, .string ⟨#[]⟩]) 2 24 Tryz.underlying88 hi hz0 hz1 hz2 rfl (by decide) _ lk.length (wordCells lk) rfl (World.ownsRow.alloc HW1.out _) ⟨w1.heap.size, 0, none⟩ 1 1 [.int .i64 z, .string t] rfl rfl HNW.out HTO.out (by unfold maxLen; omega) (by omega) hbz ?_; intro v2 w2 hown2 hgrow2 _ hat2)
      have HA := Lib.hid (put_append HW1.out hbs1 hown2 hgrow2 hat2)
      clear hown2 hgrow2 hat2
      go_wp2_with fail
      go_roundw
      case rel => exact ⟨k + 1, by omega, by go_num, by rw [HN.out]; exact HA.out.1, HP1.out.trans HA.out.2⟩
      case measure => simp only [intOf]; omega
    · obtain rfl : k = ts.length := by omega
      rw [List.take_length] at hWr
      have HF := Lib.hid hWr
      clear hWr hP
      go_wp2_with fail
      go_ret
      exact ⟨_, rfl, HF.out, HP.out⟩
/-- One text, in a block of its own that was just made. -/
theorem addText_one (base : Nat) (v : Value) (l : List W) (t : ByteArray) (z : Int) (w : World) (hW : WRow w base v l) (hE : Env base w) (h0 : 0 < t.size) (hz : runKind t = z) (hl : l.length ≤ 1000000) :
    Calls Tryz.prog 97 #[v, .slice (some ⟨w.heap.size, 0, none⟩) 1 1] (w.alloc (.cells #[.string t] 9)) (AddRet base v (l ++ [(z, t)]) w) := by
  subst hz
  have hal := (Below.refl w.heap.size w).alloc (Nat.le_refl _) (.cells #[.string t] 9)
  have hbs := hE.1
  refine (addTexts_any base w.heap.size 1 v l [t] _ (hW.below hal) (hE.next (hal.mono hbs)) (hW.free (Nat.le_refl _)) (by rw [World.size_alloc]; omega) (fun k hk => ?_) (fun x hx => by simp at hx; subst hx; exact h0) (by simp only [List.length_cons, List.length_nil]; omega)).mono ?_
  · obtain rfl : k = 0 := by simpa using hk
    exact alloc_cell w #[.string t] 9 (0, 0) 0
  · rintro ee w' ⟨v', he, h1, h2⟩
    exact ⟨v', he, h1, (Put.of_below hal hbs).trans h2⟩
/-- Two texts, in a block of their own that was just made. -/
theorem addText_two (base : Nat) (v : Value) (l : List W) (t u : ByteArray) (z y : Int) (w : World) (hW : WRow w base v l) (hE : Env base w) (h0 : 0 < t.size) (h1 : 0 < u.size) (hz : runKind t = z) (hy : runKind u = y) (hl : l.length ≤ 999999) :
    Calls Tryz.prog 97 #[v, .slice (some ⟨w.heap.size, 0, none⟩) 2 2] (w.alloc (.cells #[.string t, .string u] 9)) (AddRet base v (l ++ [(z, t), (y, u)]) w) := by
  subst hz
  subst hy
  have hal := (Below.refl w.heap.size w).alloc (Nat.le_refl _) (.cells #[.string t, .string u] 9)
  have hbs := hE.1
  refine (addTexts_any base w.heap.size 2 v l [t, u] _ (hW.below hal) (hE.next (hal.mono hbs)) (hW.free (Nat.le_refl _)) (by rw [World.size_alloc]; omega) (fun k hk => ?_) (fun x hx => by
    rcases List.mem_cons.1 hx with rfl | hx
    · exact h0
    · simp at hx; subst hx; exact h1) (by simp only [List.length_cons, List.length_nil]; omega)).mono ?_
  · have hk' : k = 0 ∨ k = 1 := by have : k < 2 := hk; omega
    rcases hk' with rfl | rfl
    · exact alloc_cell w #[.string t, .string u] 9 (0, 0) 0
    · exact alloc_cell w #[.string t, .string u] 9 (0, 0) 1
  · rintro ee w' ⟨v', he, h1, h2⟩
    exact ⟨v', he, h1, (Put.of_below hal hbs).trans h2⟩
end Go.Proofs.YtljdbjfbcjigaaaGreatDoor
