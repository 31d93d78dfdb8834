/-
  The three lists of the program: how they are made, marked and told.
-/
import Derived.Test.YtomhomnibikceaaDoorYM
import Derived.Test.YtomhomnibikceaaDoorNQ
namespace Go.Proofs.YtomhomnibikceaaDoor
open Go.RowKit
set_option maxRecDepth 100000

def iCz (l : List Int) : List Value := l.map (Value.int .i64)
/-- The outer row: three slices, of which the first have n numbers. -/
def outZ (s : Nat) (n0 n1 n2 : Nat) : List Value := [.slice (some ⟨s, 0, none⟩) n0 3, .slice (some ⟨s + 1, 0, none⟩) n1 3, .slice (some ⟨s + 2, 0, none⟩) n2 3]
structure Own3 (w : World) (s n0 n1 n2 : Nat) (a0 a1 a2 : List Value) : Prop where
  r0 : Bz w s 3 a0
  r1 : Bz w (s + 1) 3 a1
  r2 : Bz w (s + 2) 3 a2
  o : Bz w (s + 3) 48 (outZ s n0 n1 n2)
theorem Own3.on {w w' : World} {s n0 n1 n2 : Nat} {a0 a1 a2 : List Value} (h : Own3 w s n0 n1 n2 a0 a1 a2) (hb : Below w.heap.size w w') : Own3 w' s n0 n1 n2 a0 a1 a2 :=
  ⟨h.r0.on hb, h.r1.on hb, h.r2.on hb, h.o.on hb⟩
theorem Own3.same {w w' : World} {s n0 n1 n2 : Nat} {a0 a1 a2 : List Value} (h : Own3 w s n0 n1 n2 a0 a1 a2) (hs : ∀ g, s ≤ g → g < w.heap.size → w'.heap[g]? = w.heap[g]?) : Own3 w' s n0 n1 n2 a0 a1 a2 := by
  obtain ⟨h0, h1, h2, h3⟩ := h
  refine ⟨?_, ?_, ?_, ?_⟩
  · unfold Bz; rw [hs _ (by omega) h0.lt]; exact h0
  · unfold Bz; rw [hs _ (by omega) h1.lt]; exact h1
  · unfold Bz; rw [hs _ (by omega) h2.lt]; exact h2
  · unfold Bz; rw [hs _ (by omega) h3.lt]; exact h3
/-- A row: its numbers, or marks from a number on. -/
def rowZ (n i : Nat) (st : Bool) : List Value := if st then mk3 n ((1 : Int) + (i * n : Nat)) (iCz (numsI i)) else iCz (numsI i)
theorem numsI_len (i : Nat) : (numsI i).length = 3 := by
  unfold numsI
  split
  · rfl
  · split <;> rfl
theorem iCz_len (l : List Int) : (iCz l).length = l.length := List.length_map _
theorem rowZ_len {n i : Nat} {st : Bool} (hn : n ≤ 3) : (rowZ n i st).length = 3 := by
  unfold rowZ
  split
  · rw [mk3_len (by rw [iCz_len, numsI_len]; exact hn), iCz_len, numsI_len]
  · rw [iCz_len, numsI_len]
/-- The whole result of the program: nothing, or three rows of its own. -/
def GS (w : World) (base m n : Nat) (v : Value) (st : Bool) : Prop :=
  (m = 0 ∧ v = .slice none 0 0) ∨ (m = 3 ∧ ∃ s, base ≤ s ∧ v = .slice (some ⟨s + 3, 0, none⟩) 3 3 ∧ Own3 w s n n n (rowZ n 0 st) (rowZ n 1 st) (rowZ n 2 st))
theorem GS.on {w w' : World} {base m n : Nat} {v : Value} {st : Bool} (h : GS w base m n v st) (hb : Below w.heap.size w w') : GS w' base m n v st := by
  rcases h with h | ⟨hm, s, hs, hv, ho⟩
  · exact .inl h
  · exact .inr ⟨hm, s, hs, hv, ho.on hb⟩
theorem GS.same {w w' : World} {base m n : Nat} {v : Value} {st : Bool} (h : GS w base m n v st) (hk : ∀ g, base ≤ g → g < w.heap.size → w'.heap[g]? = w.heap[g]?) : GS w' base m n v st := by
  rcases h with h | ⟨hm, s, hs, hv, ho⟩
  · exact .inl h
  · exact .inr ⟨hm, s, hs, hv, ho.same fun g hg h => hk g (by omega) h⟩
theorem GS.le {w : World} {base base' m n : Nat} {v : Value} {st : Bool} (h : GS w base m n v st) (hb : base' ≤ base) : GS w base' m n v st := by
  rcases h with h | ⟨hm, s, hs, hv, ho⟩
  · exact .inl h
  · exact .inr ⟨hm, s, by omega, hv, ho⟩
theorem nums_of {w : World} {g i n : Nat} (hn : n ≤ 3) (h : Bz w g 3 (iCz (numsI i))) : NumS w (Lt w.heap.size) (listI n i) (some ⟨g, 0, none⟩) :=
  NumS.mk h.lt fun j hj => by
    have hjn : j < n := by rw [listI_len hn] at hj; exact hj
    have h1 : (listI n i)[j]? = (numsI i)[j]? := by unfold listI; rw [List.getElem?_take, if_pos hjn]
    rw [Nat.zero_add, h.cell j]
    unfold iCz
    rw [List.getElem?_map, ← h1, List.getElem?_eq_getElem hj]
    rfl
theorem GS.rd {w : World} {base m n : Nat} {v : Value} (h : GS w base m n v false) (hn : n ≤ 3) : ∃ A c, v = .slice A m c ∧ RdSS w (Lt w.heap.size) m n A := by
  rcases h with ⟨rfl, rfl⟩ | ⟨rfl, s, hs, rfl, h0, h1, h2, ho⟩
  · exact ⟨_, _, rfl, .inl rfl⟩
  · refine ⟨_, _, rfl, .inr ⟨_, _, rfl, ho.lt, fun i hi => ?_⟩⟩
    have hi' : i = 0 ∨ i = 1 ∨ i = 2 := by omega
    rcases hi' with rfl | rfl | rfl
    · exact ⟨_, _, by rw [Nat.zero_add, ho.cell]; rfl, nums_of hn h0⟩
    · exact ⟨_, _, by rw [Nat.zero_add, ho.cell]; rfl, nums_of hn h1⟩
    · exact ⟨_, _, by rw [Nat.zero_add, ho.cell]; rfl, nums_of hn h2⟩
set_option maxHeartbeats 2000000 in
theorem markIntSS_none (A : Option Addr) (c : Nat) (w : World) :
    Calls Tryd.prog 13 #[.slice A 0 c, .int .i64 1] w fun e w' => e = .returned (.int .i64 1) ∧ w' = w := by
  go_enter Tryd.func13, Tryd.ntmps13
  go_wp2_with fail
  go_loopw [1, 5] (fun m i wr => i = .int .i64 0 ∧ m = .int .i64 1 ∧ wr = w) (fun _ _ _ => 0)
  case atStart => exact ⟨rfl, rfl, rfl⟩
  case round =>
    obtain ⟨rfl, rfl, rfl⟩ := hrel
    go_wp2_with fail
    go_ret
    first | exact ⟨rfl, rfl⟩ | exact ⟨rfl, trivial⟩
set_option maxHeartbeats 2000000 in
theorem heldIntSS_none (A : Option Addr) (c : Nat) (w : World) :
    Calls Tryd.prog 14 #[.slice A 0 c, .int .i64 1] w fun e w' => e = .returned (.int .i64 1) ∧ w' = w := by
  go_enter Tryd.func14, Tryd.ntmps14
  go_wp2_with fail
  go_loopw [1, 5] (fun m i wr => i = .int .i64 0 ∧ m = .int .i64 1 ∧ wr = w) (fun _ _ _ => 0)
  case atStart => exact ⟨rfl, rfl, rfl⟩
  case round =>
    obtain ⟨rfl, rfl, rfl⟩ := hrel
    go_wp2_with fail
    go_ret
    first | exact ⟨rfl, rfl⟩ | exact ⟨rfl, trivial⟩
/-- The state of the rows when the first i are marked. -/
def stZ (n i j : Nat) : List Value := rowZ n j (decide (j < i))
theorem rowZ_mark (n i : Nat) : mk3 n ((1 : Int) + (i * n : Nat)) (rowZ n i false) = rowZ n i true := rfl
theorem stZ_at (n i : Nat) : stZ n i i = rowZ n i false := by unfold stZ; rw [decide_eq_false (by omega)]
theorem stZ_done (n i : Nat) : stZ n (i + 1) i = rowZ n i true := by unfold stZ; rw [decide_eq_true (by omega)]
theorem stZ_other {n i j : Nat} (h : j ≠ i) : stZ n (i + 1) j = stZ n i j := by
  unfold stZ
  congr 1
  by_cases hj : j < i
  · rw [decide_eq_true hj, decide_eq_true (by omega)]
  · rw [decide_eq_false hj, decide_eq_false (by omega)]
set_option maxHeartbeats 4000000 in
theorem markIntSS_own (s n : Nat) (hn : n ≤ 3) (w : World) (h : Own3 w s n n n (rowZ n 0 false) (rowZ n 1 false) (rowZ n 2 false)) :
    Calls Tryd.prog 13 #[.slice (some ⟨s + 3, 0, none⟩) 3 3, .int .i64 1] w fun e w' => e = .returned (.int .i64 ((1 : Int) + (3 * n : Nat))) ∧ Own3 w' s n n n (rowZ n 0 true) (rowZ n 1 true) (rowZ n 2 true) ∧ Below s w w' := by
  have H := Lib.hid h
  clear h
  go_enter Tryd.func13, Tryd.ntmps13
  go_wp2_with fail
  go_loopw [1, 5] (fun m i wr => ∃ k : Nat, k ≤ 3 ∧ i = .int .i64 k ∧ m = .int .i64 ((1 : Int) + (k * n : Nat)) ∧ Own3 wr s n n n (stZ n k 0) (stZ n k 1) (stZ n k 2) ∧ Below s w wr) (fun _ i _ => 3 - (intOf i).toNat)
  case atStart => exact ⟨0, by omega, rfl, by simp, H.out, Below.refl _ _⟩
  case round =>
    clear H
    obtain ⟨k, hk, rfl, rfl, ho, hb⟩ := hrel
    have hc : k = 0 ∨ k = 1 ∨ k = 2 ∨ k = 3 := by omega
    rcases hc with rfl | rfl | rfl | rfl
    · have d := ho.o.cell 0
      have d' : wr.cell? ⟨s + 3, 0, none⟩ = some (.slice (some ⟨s, 0, none⟩) n 3) := d
      have r := ho.r0
      rw [stZ_at] at r
      have e : ((1 : Int) + (0 * n : Nat)) = 1 := by omega
      have M0 := markIntS_bz s n _ (rowZ_len hn) hn ((1 : Int) + (0 * n : Nat)) (by omega) (by omega) wr r
      rw [e] at M0
      have M := Lib.hid M0
      have E := Lib.hid e
      clear e M0
      have HO := Lib.hid ho
      clear ho r d
      go_wp2_with fail
      (with_reducible refine Calls.mono M.out ?_)
      rintro ee w1 ⟨rfl, hz, hon⟩
      have HF := Lib.hid (show Own3 w1 s n n n (stZ n 1 0) (stZ n 1 1) (stZ n 1 2) from ⟨by rw [stZ_done, ← rowZ_mark, E.out]; exact hz, by rw [stZ_other (by decide)]; exact HO.out.r1.only hon (by omega), by rw [stZ_other (by decide)]; exact HO.out.r2.only hon (by omega), HO.out.o.only hon (by omega)⟩)
      have hb2 := hb.trans (hon.below.mono (by omega))
      clear hz hon d'
      go_wp2_with fail
      go_roundw
      case rel => exact ⟨1, by omega, by go_num, by go_num, HF.out, hb2⟩
      case measure => simp only [intOf]; omega
    · have d := ho.o.cell 1
      have d' : wr.cell? ⟨s + 3, 1, none⟩ = some (.slice (some ⟨s + 1, 0, none⟩) n 3) := d
      have r := ho.r1
      rw [stZ_at] at r
      have e : ((1 : Int) + (1 * n : Nat)) = 1 + (n : Int) := by omega
      have M0 := markIntS_bz (s + 1) n _ (rowZ_len hn) hn ((1 : Int) + (1 * n : Nat)) (by omega) (by omega) wr r
      rw [e] at M0
      have M := Lib.hid M0
      have E := Lib.hid e
      clear e M0
      have HO := Lib.hid ho
      clear ho r d
      go_wp2_with fail
      (with_reducible refine Calls.mono M.out ?_)
      rintro ee w1 ⟨rfl, hz, hon⟩
      have HF := Lib.hid (show Own3 w1 s n n n (stZ n 2 0) (stZ n 2 1) (stZ n 2 2) from ⟨by rw [stZ_other (by decide)]; exact HO.out.r0.only hon (by omega), by rw [stZ_done, ← rowZ_mark, E.out]; exact hz, by rw [stZ_other (by decide)]; exact HO.out.r2.only hon (by omega), HO.out.o.only hon (by omega)⟩)
      have hb2 := hb.trans (hon.below.mono (by omega))
      clear hz hon d'
      go_wp2_with fail
      go_roundw
      case rel => exact ⟨2, by omega, by go_num, by go_num, HF.out, hb2⟩
      case measure => simp only [intOf]; omega
    · have d := ho.o.cell 2
      have d' : wr.cell? ⟨s + 3, 2, none⟩ = some (.slice (some ⟨s + 2, 0, none⟩) n 3) := d
      have r := ho.r2
      rw [stZ_at] at r
      have e : ((1 : Int) + (2 * n : Nat)) = 1 + 2 * (n : Int) := by omega
      have M0 := markIntS_bz (s + 2) n _ (rowZ_len hn) hn ((1 : Int) + (2 * n : Nat)) (by omega) (by omega) wr r
      rw [e] at M0
      have M := Lib.hid M0
      have E := Lib.hid e
      clear e M0
      have HO := Lib.hid ho
      clear ho r d
      go_wp2_with fail
      (with_reducible refine Calls.mono M.out ?_)
      rintro ee w1 ⟨rfl, hz, hon⟩
      have HF := Lib.hid (show Own3 w1 s n n n (stZ n 3 0) (stZ n 3 1) (stZ n 3 2) from ⟨by rw [stZ_other (by decide)]; exact HO.out.r0.only hon (by omega), by rw [stZ_other (by decide)]; exact HO.out.r1.only hon (by omega), by rw [stZ_done, ← rowZ_mark, E.out]; exact hz, HO.out.o.only hon (by omega)⟩)
      have hb2 := hb.trans (hon.below.mono (by omega))
      clear hz hon d'
      go_wp2_with fail
      go_roundw
      case rel => exact ⟨3, by omega, by go_num, by go_num, HF.out, hb2⟩
      case measure => simp only [intOf]; omega
    · have HO := Lib.hid ho
      clear ho
      go_wp2_with fail
      go_ret
      exact ⟨rfl, HO.out, hb⟩
set_option maxHeartbeats 4000000 in
theorem heldIntSS_own (s n : Nat) (hn : n ≤ 3) (w : World) (h : Own3 w s n n n (rowZ n 0 true) (rowZ n 1 true) (rowZ n 2 true)) :
    Calls Tryd.prog 14 #[.slice (some ⟨s + 3, 0, none⟩) 3 3, .int .i64 1] w fun e w' => e = .returned (.int .i64 ((1 : Int) + (3 * n : Nat))) ∧ w' = w := by
  have H := Lib.hid h
  clear h
  go_enter Tryd.func14, Tryd.ntmps14
  go_wp2_with fail
  go_loopw [1, 5] (fun m i wr => ∃ k : Nat, k ≤ 3 ∧ i = .int .i64 k ∧ m = .int .i64 ((1 : Int) + (k * n : Nat)) ∧ wr = w) (fun _ i _ => 3 - (intOf i).toNat)
  case atStart => exact ⟨0, by omega, rfl, by simp, rfl⟩
  case round =>
    obtain ⟨k, hk, rfl, rfl, rfl⟩ := hrel
    have hc : k = 0 ∨ k = 1 ∨ k = 2 ∨ k = 3 := by omega
    rcases hc with rfl | rfl | rfl | rfl
    · have d' : wr.cell? ⟨s + 3, 0, none⟩ = some (.slice (some ⟨s, 0, none⟩) n 3) := H.out.o.cell 0
      have e : ((1 : Int) + (0 * n : Nat)) = 1 := by omega
      have M0 := heldIntS_bz s n (iCz (numsI 0)) (by rw [iCz_len, numsI_len]) hn ((1 : Int) + (0 * n : Nat)) (by omega) (by omega) wr H.out.r0
      rw [e] at M0
      have M := Lib.hid M0
      clear e M0
      go_wp2_with fail
      (with_reducible refine Calls.mono M.out ?_)
      rintro ee w1 ⟨rfl, rfl⟩
      go_wp2_with fail
      go_roundw
      case rel => exact ⟨1, by omega, by go_num, by go_num, by first | rfl | trivial⟩
      case measure => simp only [intOf]; omega
    · have d' : wr.cell? ⟨s + 3, 1, none⟩ = some (.slice (some ⟨s + 1, 0, none⟩) n 3) := H.out.o.cell 1
      have e : ((1 : Int) + (1 * n : Nat)) = 1 + (n : Int) := by omega
      have M0 := heldIntS_bz (s + 1) n (iCz (numsI 1)) (by rw [iCz_len, numsI_len]) hn ((1 : Int) + (1 * n : Nat)) (by omega) (by omega) wr H.out.r1
      rw [e] at M0
      have M := Lib.hid M0
      clear e M0
      go_wp2_with fail
      (with_reducible refine Calls.mono M.out ?_)
      rintro ee w1 ⟨rfl, rfl⟩
      go_wp2_with fail
      go_roundw
      case rel => exact ⟨2, by omega, by go_num, by go_num, by first | rfl | trivial⟩
      case measure => simp only [intOf]; omega
    · have d' : wr.cell? ⟨s + 3, 2, none⟩ = some (.slice (some ⟨s + 2, 0, none⟩) n 3) := H.out.o.cell 2
      have e : ((1 : Int) + (2 * n : Nat)) = 1 + 2 * (n : Int) := by omega
      have M0 := heldIntS_bz (s + 2) n (iCz (numsI 2)) (by rw [iCz_len, numsI_len]) hn ((1 : Int) + (2 * n : Nat)) (by omega) (by omega) wr H.out.r2
      rw [e] at M0
      have M := Lib.hid M0
      clear e M0
      go_wp2_with fail
      (with_reducible refine Calls.mono M.out ?_)
      rintro ee w1 ⟨rfl, rfl⟩
      go_wp2_with fail
      go_roundw
      case rel => exact ⟨3, by omega, by go_num, by go_num, by first | rfl | trivial⟩
      case measure => simp only [intOf]; omega
    · go_wp2_with fail
      go_ret
      first | exact ⟨rfl, rfl⟩ | exact ⟨rfl, trivial⟩
theorem markIntSS_any (base m n : Nat) (v : Value) (hn : n ≤ 3) (w : World) (h : GS w base m n v false) :
    Calls Tryd.prog 13 #[v, .int .i64 1] w fun e w' => e = .returned (.int .i64 ((1 : Int) + (m * n : Nat))) ∧ GS w' base m n v true ∧ Below base w w' := by
  rcases h with ⟨rfl, rfl⟩ | ⟨rfl, s, hs, rfl, ho⟩
  · refine (markIntSS_none none 0 w).mono ?_
    rintro e w' ⟨rfl, rfl⟩
    exact ⟨by simp, .inl ⟨rfl, rfl⟩, Below.refl _ _⟩
  · refine (markIntSS_own s n hn w ho).mono ?_
    rintro e w' ⟨rfl, ho', hb⟩
    exact ⟨rfl, .inr ⟨rfl, s, hs, rfl, ho'⟩, hb.mono hs⟩
theorem heldIntSS_any (base m n : Nat) (v : Value) (hn : n ≤ 3) (w : World) (h : GS w base m n v true) :
    Calls Tryd.prog 14 #[v, .int .i64 1] w fun e w' => e = .returned (.int .i64 ((1 : Int) + (m * n : Nat))) ∧ w' = w := by
  rcases h with ⟨rfl, rfl⟩ | ⟨rfl, s, hs, rfl, ho⟩
  · refine (heldIntSS_none none 0 w).mono ?_
    rintro e w' ⟨rfl, rfl⟩
    exact ⟨by simp, rfl⟩
  · exact heldIntSS_own s n hn w ho
end Go.Proofs.YtomhomnibikceaaDoor
