/-
  JoinWords: the model's and the program's join the same words to the same text.
-/
import Derived.Test.YtoepehlndljkoaaDoorC5
import Derived.Test.YtoepehlndljkoaaDoorKW
import Derived.Lib.Join
namespace Go.Proofs.YtoepehlndljkoaaDoor
open Go.RowKit
set_option maxRecDepth 100000

theorem keyB_size : ∀ k, k < 9 → (keyB k).size ≤ 4 := by decide +kernel
theorem validB_size {n : Int} {s : ByteArray} (h : validB n s = true) : s.size ≤ 4 := by
  unfold validB at h
  split at h
  · unfold nameB at h
    simp only [Bool.and_eq_true, decide_eq_true_eq] at h
    exact h.1.2
  · split at h
    · rw [decide_eq_true_eq] at h
      unfold numB at h
      split at h
      · rename_i hc
        have := canon_len hc.1 hc.2
        simp at this
        omega
      · omega
    · split at h
      · unfold signB at h
        split at h
        · omega
        · cases h
      · split at h
        · obtain ⟨k, hk, rfl⟩ := (isKeyB_iff s).1 h
          exact keyB_size k hk
        · cases h

/-- The texts of words with a space between. -/
def joinB (ws : List (Int × ByteArray)) : List UInt8 := Lib.join (ws.map (·.2.data.toList)) [32]
theorem joinB_nil : joinB [] = [] := rfl
theorem join_snoc (x : List UInt8) (l : List (List UInt8)) (y : List UInt8) : Lib.join (x :: l ++ [y]) [32] = Lib.join (x :: l) [32] ++ (32 :: y) := by
  rw [List.cons_append, Lib.join_cons, Lib.join_cons]
  simp [Lib.joinTail]
theorem joinB_first {ws : List (Int × ByteArray)} (h : 0 < ws.length) : joinB (ws.take 1) = ws[0].2.data.toList := by
  cases ws with
  | nil => simp at h
  | cons x l => simp [joinB, Lib.join_one]
theorem joinB_next {ws : List (Int × ByteArray)} {k : Nat} (h : k < ws.length) (hk : 0 < k) : joinB (ws.take (k + 1)) = joinB (ws.take k) ++ (32 :: ws[k].2.data.toList) := by
  unfold joinB
  rw [List.take_succ_eq_append_getElem h, List.map_append]
  cases hw : (ws.take k).map (·.2.data.toList) with
  | nil =>
    exfalso
    have := congrArg List.length hw
    rw [List.length_map, List.length_take, List.length_nil] at this
    omega
  | cons x l => exact join_snoc x l _
/-- The first k words are valid. -/
def validTo (ws : List (Int × ByteArray)) (k : Nat) : Prop := ∀ j, (h : j < ws.length) → j < k → validB ws[j].1 ws[j].2 = true
theorem validTo_succ {ws : List (Int × ByteArray)} {k : Nat} (h : validTo ws k) (hk : k < ws.length) (hv : validB ws[k].1 ws[k].2 = true) : validTo ws (k + 1) := by
  intro j hj hjk
  by_cases e : j = k
  · subst e; exact hv
  · exact h j hj (by omega)
theorem joinB_len {ws : List (Int × ByteArray)} : ∀ (k : Nat), k ≤ ws.length → validTo ws k → (joinB (ws.take k)).length ≤ 5 * k
  | 0, _, _ => by simp [joinB_nil]
  | k + 1, hk, h => by
    have hv := validB_size (h k (by omega) (by omega))
    have ih := joinB_len k (by omega) (fun j hj hjk => h j hj (by omega))
    by_cases h0 : k = 0
    · subst h0
      rw [joinB_first (by omega)]
      have e : ws[0].2.data.toList.length = ws[0].2.size := by simp
      rw [e]
      omega
    · rw [joinB_next (by omega) (by omega), List.length_append, List.length_cons]
      have e : ws[k].2.data.toList.length = ws[k].2.size := by simp
      rw [e]
      omega
open Classical in
/-- What JoinWords returns. -/
noncomputable def joinF (ws : List (Int × ByteArray)) : ByteArray × Bool :=
  if ws.length ≤ 600 ∧ validTo ws ws.length then (⟨(joinB ws).toArray⟩, true) else (⟨#[]⟩, false)
theorem joinF_yes {ws : List (Int × ByteArray)} (h : ws.length ≤ 600) (hv : validTo ws ws.length) : joinF ws = (⟨(joinB ws).toArray⟩, true) := by unfold joinF; rw [if_pos ⟨h, hv⟩]
theorem joinF_long {ws : List (Int × ByteArray)} (h : 600 < ws.length) : joinF ws = (⟨#[]⟩, false) := by unfold joinF; rw [if_neg (fun h' => by omega)]
theorem joinF_bad {ws : List (Int × ByteArray)} {k : Nat} (hk : k < ws.length) (hv : validB ws[k].1 ws[k].2 = false) : joinF ws = (⟨#[]⟩, false) := by
  unfold joinF; rw [if_neg]
  rintro ⟨_, h⟩
  rw [h k hk hk] at hv; cases hv
/-- Two results: a text and a flag; new blocks at most. -/
def TextRet (p : ByteArray × Bool) (w : World) (e : Ending) (w' : World) : Prop := e = .returned (.tuple #[.string p.1, .bool p.2]) ∧ Below w.heap.size w w'


theorem stringInfo : (Tryd.prog.info? 9).map (fun i => (i.zero, i.size, i.bytes)) = some (some (.string ⟨#[]⟩), 1, 16) := by kernel_rfl
theorem new_text (w : World) (s : ByteArray) : ∀ (j : Nat) u, [Value.string s][j]? = some u → (w.alloc (.cells #[.string s] 9)).cell? ((⟨w.heap.size, 0, none⟩ : Addr).add j) = some u := by
  intro j u hu
  match j, hu with
  | 0, hu =>
    have : (⟨w.heap.size, 0, none⟩ : Addr).add 0 = ⟨w.heap.size, 0, none⟩ := rfl
    rw [this, alloc_cell]
    exact hu
  | j + 1, hu => simp at hu
/-- The cells of the first k texts. -/
def textCells (ws : List (Int × ByteArray)) (k : Nat) : List Value := (ws.take k).map fun x => Value.string x.2
theorem textCells_succ {ws : List (Int × ByteArray)} {k : Nat} (h : k < ws.length) : textCells ws (k + 1) = textCells ws k ++ [.string ws[k].2] := by
  unfold textCells; rw [List.take_succ_eq_append_getElem h, List.map_append]; rfl

set_option maxHeartbeats 2000000 in
theorem implJoinWords_any (A : Option Addr) (ws : List (Int × ByteArray)) (cap : Nat) (w : World) (hW : Words w w.heap.size A ws) (hs : ∀ x ∈ ws, x.2.size ≤ 1048576) (hn : ws.length ≤ 1048576) (T : Tabs w) (N : NTabs w) :
    Calls Tryd.prog 18 #[.slice A ws.length cap] w (TextRet (joinF ws) w) := by
  by_cases hlong : 600 < ws.length
  · rw [joinF_long hlong]
    go_enter Tryd.func18, Tryd.ntmps18
    go_wp2
    go_ret2
    exact ⟨rfl, Below.refl _ _⟩
  have hle : ws.length ≤ 600 := by omega
  clear hlong
  have HS := Lib.hid hs
  clear hs
  obtain ⟨i0, hi, hz0, hz1, hz2⟩ := info_parts stringInfo
  go_enter Tryd.func18, Tryd.ntmps18
  go_wp2_with (with_reducible refine wpList_make_own _ rfl _ _ 52 rfl w.heap.size 9 i0 (.string ⟨#[]⟩) 1 Tryd.underlying52 hi hz0 hz1 _ _ _ ws.length rfl rfl rfl ?c1 ?c2 ?c3 ?_)
  case c1 => rw [hz2]; omega
  case c2 => unfold maxLen; omega
  case c3 => exact Nat.le_refl _
  intro w1 hown hgrow
  have hb0 : Below w.heap.size w w1 := (Below.refl _ _).grown hgrow (Nat.le_refl _) (fun k e => by cases e)
  have HO0 := Lib.hid hown
  clear hgrow hown
  go_wp2
  go_loopw [4, 16] (fun v i wr => ∃ (k : Nat), k ≤ ws.length ∧ i = .int .i64 k ∧ v = .slice (some ⟨w.heap.size, 0, none⟩) k ws.length ∧ wr.ownsRow w.heap.size 9 1 (.slice (some ⟨w.heap.size, 0, none⟩) k ws.length) k (textCells ws k) ∧ validTo ws k ∧ Below w.heap.size w wr) (fun _ i _ => ws.length - (intOf i).toNat)
  case atStart => exact ⟨0, Nat.zero_le _, rfl, rfl, HO0.out, fun j _ hj => absurd hj (by omega), hb0⟩
  case round =>
    clear HO0 hb0
    obtain ⟨k, hk, rfl, rfl, hown, hv, hb⟩ := hrel
    by_cases hlt : k < ws.length
    · obtain ⟨b, o, rfl, hB, hc1, hc2⟩ := (hW.below hb).at_ hlt
      have hsz := HS.out _ (List.getElem_mem hlt)
      have TB := fun W h => T.below (w' := W) h
      have NB := fun W h => N.below (w' := W) h
      have SV := fun W h1 h2 => Lib.hid (implWordValid_any ws[k].1 ws[k].2 W hsz h1 h2)
      have HO := Lib.hid hown
      clear hown
      cases hval : validB ws[k].1 ws[k].2
      · have hbad := Lib.hid (joinF_bad hlt hval)
        rw [hval] at SV
        clear hval
        generalize ws[k].1 = n1 at *
        generalize ws[k].2 = s1 at *
        have hb1 := hb.alloc hb.size (.cells #[.int .i64 n1, .string s1] 54)
        go_wp2_with fail
        refine (SV _ (TB _ hb1) (NB _ hb1)).out.mono ?_
        rintro e w2 ⟨rfl, hb2⟩
        have hb3 := hb1.trans (hb2.mono hb1.size)
        clear hb hb1 hb2 TB NB
        go_wp2
        go_ret2
        rw [hbad.out]
        exact ⟨rfl, hb3⟩
      · have HV := Lib.hid (validTo_succ hv hlt hval)
        have HT := Lib.hid (textCells_succ hlt)
        rw [hval] at SV
        clear hval hv
        generalize ws[k].1 = n1 at *
        generalize ws[k].2 = s1 at *
        have hb1 := hb.alloc hb.size (.cells #[.int .i64 n1, .string s1] 54)
        have hown1 := HO.out.alloc (.cells #[.int .i64 n1, .string s1] 54)
        have hcl := alloc_cell wr #[.int .i64 n1, .string s1] 54 (0, 0) 1
        have HO1 := Lib.hid hown1
        have HCL := Lib.hid hcl
        clear hcl hown1
        go_wp2_with fail
        refine (SV _ (TB _ hb1) (NB _ hb1)).out.mono ?_
        rintro e w2 ⟨rfl, hb2⟩
        have g2 : w2.cell? ⟨wr.heap.size, 1, none⟩ = some (.string s1) := (hb2.cell (p := ⟨wr.heap.size, 1, none⟩) (by simp)).trans HCL.out
        have HO2 := Lib.hid (HO1.out.kept (w' := w2) (row := none) ⟨hb2.os, hb2.tape, hb2.output, hb2.size, fun i hi _ => hb2.block i hi⟩ (by simp [Value.ownBlock]))
        have hb3 := hb1.trans (hb2.mono hb1.size)
        clear hb hb1 hb2 TB NB hc1 hc2
        have HNW := Lib.hid (new_text w2 s1)
        have HOC := Lib.hid (show ∀ u ∈ [Value.string s1], u.oneCell' = true by intro u hu; simp at hu; subst hu; rfl)
        go_wp2_with (at_builtin; refine wpList_append_fits _ rfl _ _ 52 rfl w.heap.size 9 i0 1 Tryd.underlying52 hi hz1 w.heap.size k ws.length (textCells ws k) rfl (HO2.out.alloc _) ⟨w2.heap.size, 0, none⟩ 1 1 [.string s1] rfl rfl HNW.out HOC.out (by omega) ?_; intro w3 hown3 hgrow3)
        have hb4 : Below w.heap.size w w3 := (hb3.alloc hb3.size _).grown hgrow3 (Nat.le_trans hb3.size (by simp)) (fun k e => by cases e; exact Nat.le_refl _)
        have HO3 := Lib.hid hown3
        clear hb3 hgrow3 hown3
        go_wp2
        go_roundw
        case rel => exact ⟨k + 1, by omega, by go_num, rfl, by rw [HT.out]; exact HO3.out, HV.out, hb4⟩
        case measure => simp only [intOf]; omega
    · obtain rfl : k = ws.length := by omega
      have hcells : ∀ (j : Nat) x, (ws.map (·.2))[j]? = some x → wr.cell? ⟨w.heap.size, 0 + j, none⟩ = some (.string x) := by
        intro j x hx
        have hj : j < ws.length := by
          rcases Nat.lt_or_ge j ws.length with h | h
          · exact h
          · rw [List.getElem?_eq_none (by simpa using h)] at hx; cases hx
        rw [Nat.zero_add, hown.cellAt j (by omega)]
        unfold textCells
        rw [List.take_of_length_le (Nat.le_refl _), List.getElem?_map, List.getElem?_eq_getElem hj]
        rw [List.getElem?_map, List.getElem?_eq_getElem hj] at hx
        cases hx
        rfl
      have hjl := joinB_len ws.length (Nat.le_refl _) hv
      rw [List.take_of_length_le (Nat.le_refl _)] at hjl
      have hmm : Lib.join ((ws.map (·.2)).map (·.data.toList)) (⟨#[32]⟩ : ByteArray).data.toList = joinB ws := by
        unfold joinB; rw [List.map_map]; rfl
      have SJ := Tryd.strings_Join w.heap.size 0 ws.length (ws.map (·.2)) ⟨#[32]⟩ wr hcells (hown.lt _ rfl).2 (by simp; omega) (by simp) (by rw [hmm]; omega)
      rw [hmm, List.length_map] at SJ
      have HF := Lib.hid (joinF_yes hle hv)
      have hsz : (⟨(joinB ws).toArray⟩ : ByteArray).size ≤ 3000 := by show (joinB ws).toArray.size ≤ 3000; simp; omega
      generalize (⟨(joinB ws).toArray⟩ : ByteArray) = out at *
      have SJ' := Lib.hid SJ
      clear SJ hcells hmm hown hv hjl
      go_wp2_with fail
      refine SJ'.out.mono ?_
      rintro e w3 ⟨rfl, hb3⟩
      have hb4 := hb.trans (hb3.mono hb.size)
      clear hb hb3
      go_wp2
      go_ret2
      rw [HF.out]
      exact ⟨rfl, hb4⟩
end Go.Proofs.YtoepehlndljkoaaDoor
