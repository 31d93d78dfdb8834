/-
  CutWords: the model's and the program's cut a text into the same words.
-/
import Derived.Test.YtljdbjfbcjigaaaGreatDoorMg4
import Derived.Test.YtljdbjfbcjigaaaGreatDoorMg5
import Derived.Deep.DeepCutAuto
import Derived.Deep.CutBlock
namespace Go.Proofs.YtljdbjfbcjigaaaGreatDoor
open Go.RowKit
set_option maxRecDepth 100000

/-- A word, and new blocks at most. -/
def WordRet (z : Int) (t : ByteArray) (w : World) (e : Ending) (w' : World) : Prop := e = .returned (.agg #[.int .i64 z, .string t]) ∧ Below w.heap.size w w'

/-- A variable of the call's own, behind a callee: its cells are there, and can be written. -/
theorem own_cells {w w2 : World} {c0 c1 : Value} {t : TypeId} (hb : Below (w.alloc (.cells #[c0, c1] t (0, 0))).heap.size (w.alloc (.cells #[c0, c1] t (0, 0))) w2) :
    w2.cell? ⟨w.heap.size, 0, none⟩ = some c0 ∧ w2.cell? ⟨w.heap.size, 1, none⟩ = some c1 ∧ w2.frozen? ⟨w.heap.size, 0, none⟩ = false ∧ w2.frozen? ⟨w.heap.size, 1, none⟩ = false := by
  have hlt : w.heap.size < (w.alloc (.cells #[c0, c1] t (0, 0))).heap.size := by show _ < (w.heap.push _).size; simp
  refine ⟨?_, ?_, ?_, ?_⟩
  · rw [hb.cell (p := ⟨w.heap.size, 0, none⟩) hlt, alloc_cell]; rfl
  · rw [hb.cell (p := ⟨w.heap.size, 1, none⟩) hlt, alloc_cell]; rfl
  · rw [hb.frozen (p := ⟨w.heap.size, 0, none⟩) hlt, alloc_frozen]
  · rw [hb.frozen (p := ⟨w.heap.size, 1, none⟩) hlt, alloc_frozen]

theorem own_set {w : World} {b : Nat} {c0 c1 : Value} (h0 : w.cell? ⟨b, 0, none⟩ = some c0) (h1 : w.cell? ⟨b, 1, none⟩ = some c1) :
    (∀ z, (w.setCell ⟨b, 0, none⟩ z).cell? ⟨b, 0, none⟩ = some z) ∧ (∀ z t, ((w.setCell ⟨b, 0, none⟩ z).setCell ⟨b, 1, none⟩ t).cell? ⟨b, 1, none⟩ = some t) := by
  refine ⟨fun z => World.cell?_setCell_same _ _ _ h0, fun z t => ?_⟩
  exact World.cell?_setCell_same _ _ _ (u := c1) (by rw [World.cell?_setCell_other _ _ _ _ (by simp)]; exact h1)
set_option maxHeartbeats 400000 in
theorem l1Word_any (t : ByteArray) (w : World) (h0 : 0 < t.size) :
    Calls Tryz.prog 170 #[.string t] w (WordRet (wordKind t (cls t[0].toNat)) t w) := by
  have C1 := fun W => Lib.hid (l1Class_any t[0] W)
  have C2 := fun W => Lib.hid (l1Key_any t W)
  unfold wordKind
  generalize cls t[0].toNat = z at *
  have hb0 : Below w.heap.size w (w.alloc (.cells #[.int .i64 0, .string ⟨#[]⟩] 138)) := (Below.refl _ _).alloc (Nat.le_refl _) _
  cases hk : isKeyB t
  all_goals
    rw [hk] at C2
    clear hk
    go_enter Tryz.func170, Tryz.ntmps170
    go_wp2_with fail
    refine (C1 _).out.mono ?_
    rintro e w1 ⟨rfl, rfl⟩
    go_wp2_with fail
    refine (C2 _).out.mono ?_
    rintro e w2 ⟨rfl, hb2⟩
    obtain ⟨k0, k1, k2, k3⟩ := own_cells hb2
    have hb3 := hb0.trans (hb2.mono hb0.size)
    clear hb0 hb2 C1 C2
    obtain ⟨g0, g1⟩ := own_set k0 k1
    go_wp2
    refine bodyPost_ret (v := .agg #[.int .i64 _, .string t]) (by simp [results, Tryz.results170, go_sem, g0, g1]; rfl) rfl ?_
    exact ⟨rfl, (hb3.setCell (Nat.le_refl _) _).setCell (Nat.le_refl _) _⟩

set_option maxHeartbeats 400000 in
theorem wordOf_any (t : ByteArray) (w : World) (h0 : 0 < t.size) (T : Tabs w) :
    Calls Tryz.prog 110 #[.string t] w (WordRet (runKind t) t w) := by
  have hb0 : Below w.heap.size w (w.alloc (.cells #[.int .i64 0, .string ⟨#[]⟩] 138)) := (Below.refl _ _).alloc (Nat.le_refl _) _
  have T1 := T.below hb0
  have C1 := Lib.hid (isKey_any t _ T1)
  have C2 := Lib.hid (kindOfByte_any t[0] _ T1)
  unfold runKind
  rw [dif_pos h0]
  generalize kindN t[0].toNat = z at *
  cases hk : isKeyB t
  all_goals
    rw [hk] at C1
    clear hk T T1
    go_enter Tryz.func110, Tryz.ntmps110
    go_wp2_with fail
    refine C1.out.mono ?_
    rintro e w1 ⟨rfl, rfl⟩
    go_wp2_with fail
  · refine C2.out.mono ?_
    rintro e w2 ⟨rfl, rfl⟩
    clear C1 C2
    go_wp2
    go_returns
    exact ⟨rfl, (Below.refl _ _).alloc (Nat.le_refl _) _⟩
  · clear C1 C2
    go_wp2
    go_returns
    exact ⟨rfl, (Below.refl _ _).alloc (Nat.le_refl _) _⟩

/-- The state of a cutter behind a kind, as a value. -/
def stV (z : Int) : Value := if z = 1 then .func (.func 200) #[] #[] else if z = 2 then .func (.func 206) #[] #[] else if z = 5 then .func (.func 207) #[] #[] else .func (.func 158) #[] #[]
/-- Does a kind go on with a state? -/
def goB (z z' : Int) : Bool := z' == z && (z == 1 || z == 2 || z == 5)
theorem goB_kind (z : Int) (b : UInt8) : goB z (kindN b.toNat) = goKind z b := rfl
set_option maxHeartbeats 400000 in
theorem inDigits_any (n : Int) (w : World) :
    Calls Tryz.prog 206 #[.int .i64 n] w fun e w' => e = .returned (.bool (n == 2)) ∧ w = w' := by
  go_enter Tryz.func206, Tryz.ntmps206
  go_wp2
  go_ret
  exact ⟨rfl, rfl⟩
set_option maxHeartbeats 400000 in
theorem inGap_any (n : Int) (w : World) :
    Calls Tryz.prog 207 #[.int .i64 n] w fun e w' => e = .returned (.bool (n == 5)) ∧ w = w' := by
  go_enter Tryz.func207, Tryz.ntmps207
  go_wp2
  go_ret
  exact ⟨rfl, rfl⟩
set_option maxHeartbeats 400000 in
theorem alone_any (n : Int) (w : World) :
    Calls Tryz.prog 158 #[.int .i64 n] w fun e w' => e = .returned (.bool false) ∧ w = w' := by
  go_enter Tryz.func158, Tryz.ntmps158
  go_wp2
  go_ret
  exact ⟨rfl, rfl⟩
set_option maxHeartbeats 400000 in
theorem stateBehind_any (z : Int) (w : World) :
    Calls Tryz.prog 160 #[.int .i64 z] w fun e w' => e = .returned (stV z) ∧ w = w' := by
  unfold stV
  by_cases h1 : z = 1
  · subst h1
    rw [if_pos rfl]
    go_enter Tryz.func160, Tryz.ntmps160
    go_wp2
    go_ret
    exact ⟨rfl, rfl⟩
  by_cases h2 : z = 2
  · subst h2
    rw [if_neg (by omega), if_pos rfl]
    go_enter Tryz.func160, Tryz.ntmps160
    go_wp2
    go_ret
    exact ⟨rfl, rfl⟩
  by_cases h5 : z = 5
  · subst h5
    rw [if_neg (by omega), if_neg (by omega), if_pos rfl]
    go_enter Tryz.func160, Tryz.ntmps160
    go_wp2
    go_ret
    exact ⟨rfl, rfl⟩
  · rw [if_neg h1, if_neg h2, if_neg h5]
    have b1 : (z == 1) = false := by rw [beq_eq_false_iff_ne]; exact h1
    have b2 : (z == 2) = false := by rw [beq_eq_false_iff_ne]; exact h2
    have b5 : (z == 5) = false := by rw [beq_eq_false_iff_ne]; exact h5
    clear h1 h2 h5
    go_enter Tryz.func160, Tryz.ntmps160
    go_wp2
    go_ret
    exact ⟨rfl, rfl⟩

/-- Texts as values. -/
def strCells (l : List ByteArray) : List Value := l.map Value.string
theorem strCells_snoc (l : List ByteArray) (t : ByteArray) : strCells (l ++ [t]) = strCells l ++ [.string t] := by unfold strCells; simp
theorem strCells_len (l : List ByteArray) : (strCells l).length = l.length := by unfold strCells; simp

/-- Where a cutter of runs stands: i bytes are gone through, the run that has been begun begins at b, its kind is z. -/
def cutRel (s : ByteArray) (i b : Nat) (z : Int) (xs : List ByteArray) : Prop :=
  (i = 0 ∧ b = 0 ∧ z = 0 ∧ xs = []) ∨ (∃ h : b < i, ∃ hi : i ≤ s.size, z = kindN (s[b]'(by omega)).toNat ∧ runsF s 0 = xs ++ runsF s b ∧ endK s b (by omega) = scanP s (goKind z) i ∧ xs.length ≤ b)
theorem cutRel_on {s : ByteArray} {i b : Nat} {z : Int} {xs : List ByteArray} (h : cutRel s i b z xs) (hi : i < s.size) (hg : goB z (kindN s[i].toNat) = true) : cutRel s (i + 1) b z xs := by
  rcases h with ⟨_, _, rfl, _⟩ | ⟨h1, h2, h3, h4, h5, h6⟩
  · unfold goB at hg; simp at hg
  · exact .inr ⟨by omega, hi, h3, h4, by rw [h5, scanP_step hi (by rw [← goB_kind]; exact hg)], h6⟩
theorem cutRel_new {s : ByteArray} {i b : Nat} {z : Int} {xs : List ByteArray} (h : cutRel s i b z xs) (hi : i < s.size) (hg : goB z (kindN s[i].toNat) = false) :
    cutRel s (i + 1) i (kindN s[i].toNat) (if b < i then xs ++ [s.extract b i] else xs) := by
  rcases h with ⟨rfl, rfl, _, rfl⟩ | ⟨h1, h2, h3, h4, h5, h6⟩
  · right
    refine ⟨by omega, hi, rfl, by simp, rfl, by simp⟩
  · right
    rw [if_pos h1]
    have he : endK s b (by omega) = i := by
      rw [h5]; exact scanP_stop (fun h => by rw [← goB_kind]; exact hg)
    refine ⟨by omega, hi, rfl, ?_, rfl, by simp; omega⟩
    rw [h4, runsF_step (show b < s.size by omega), he]
    simp
theorem cutRel_end {s : ByteArray} {b : Nat} {z : Int} {xs : List ByteArray} (h : cutRel s s.size b z xs) : runsF s 0 = if b < s.size then xs ++ [s.extract b s.size] else xs := by
  rcases h with ⟨h1, rfl, _, rfl⟩ | ⟨h1, h2, h3, h4, h5, h6⟩
  · rw [if_neg (by omega), runsF_end (by omega)]
  · rw [if_pos h1]
    have he : endK s b h1 = s.size := by
      have := scanP_stop (s := s) (p := goKind z) (k := s.size) (fun h => absurd h (by omega))
      rw [this] at h5; exact h5
    rw [h4, runsF_step h1, he, runsF_end (by omega)]
theorem cutRel_bd {s : ByteArray} {i b : Nat} {z : Int} {xs : List ByteArray} (h : cutRel s i b z xs) : b ≤ i ∧ xs.length ≤ b := by
  rcases h with ⟨rfl, rfl, _, rfl⟩ | ⟨h1, _, _, _, _, h6⟩
  · simp
  · omega

/-- Texts in memory of the call's own. -/
def RunsRet (l : List ByteArray) (w : World) (e : Ending) (w' : World) : Prop :=
  (∃ v, e = .returned v ∧ w'.ownsRow w.heap.size 9 1 v l.length (strCells l)) ∧ Below w.heap.size w w'
theorem cutV_cases (z : Int) : (z = 1 ∧ stV z = .func (.func 200) #[] #[] ∧ ∀ z', goB z z' = (z' == 1)) ∨ (z = 2 ∧ stV z = .func (.func 206) #[] #[] ∧ ∀ z', goB z z' = (z' == 2)) ∨
    (z = 5 ∧ stV z = .func (.func 207) #[] #[] ∧ ∀ z', goB z z' = (z' == 5)) ∨ (stV z = .func (.func 158) #[] #[] ∧ ∀ z', goB z z' = false) := by
  by_cases h1 : z = 1
  · subst h1; left; exact ⟨rfl, rfl, fun z' => by unfold goB; simp⟩
  by_cases h2 : z = 2
  · subst h2; right; left; exact ⟨rfl, rfl, fun z' => by unfold goB; simp⟩
  by_cases h5 : z = 5
  · subst h5; right; right; left; exact ⟨rfl, rfl, fun z' => by unfold goB; simp⟩
  · right; right; right
    refine ⟨by unfold stV; rw [if_neg h1, if_neg h2, if_neg h5], fun z' => ?_⟩
    unfold goB
    have b1 : (z == 1) = false := by rw [beq_eq_false_iff_ne]; exact h1
    have b2 : (z == 2) = false := by rw [beq_eq_false_iff_ne]; exact h2
    have b5 : (z == 5) = false := by rw [beq_eq_false_iff_ne]; exact h5
    rw [b1, b2, b5]; simp
theorem textOne : ∀ (t : ByteArray), ∀ u ∈ [Value.string t], u.oneCell' = true := by intro t u hu; simp at hu; subst hu; rfl

set_option maxHeartbeats 4000000 in
theorem cutRuns_any (s : ByteArray) (w : World) (hs : s.size ≤ 3000) (T : Tabs w) :
    Calls Tryz.prog 109 #[.string s] w (RunsRet (runsF s 0) w) := by
  obtain ⟨i0, hi, hz0, hz1, hz2⟩ := info_parts stringInfo
  go_enter Tryz.func109, Tryz.ntmps109
  go_wp2
  go_loopw [3, 4, 5, 10] (fun v b st i wr => ∃ (n m : Nat) (z : Int) (xs : List ByteArray), n ≤ s.size ∧ i = .int .i64 n ∧ b = .int .i64 m ∧ st = stV z ∧ cutRel s n m z xs ∧ wr.ownsRow w.heap.size 9 1 v xs.length (strCells xs) ∧ Below w.heap.size w wr) (fun _ _ _ i _ => s.size - (intOf i).toNat)
  case atStart => exact ⟨0, 0, 0, [], Nat.zero_le _, rfl, rfl, rfl, .inl ⟨rfl, rfl, rfl, rfl⟩, ⟨rfl, .inl ⟨rfl, rfl⟩⟩, Below.refl _ _⟩
  case round =>
    obtain ⟨n, m, z, xs, hn, rfl, rfl, rfl, hrel, hown, hb⟩ := hrel
    have hbd := cutRel_bd hrel
    have HR := Lib.hid hrel
    have HO := Lib.hid hown
    clear hrel hown
    by_cases hlt : n < s.size
    · have KB := Lib.hid (kindOfByte_any s[n] wr (T.below hb))
      go_wp2_with fail
      refine KB.out.mono ?_
      rintro e w1 ⟨rfl, rfl⟩
      clear KB
      cases hg : goB z (kindN s[n].toNat)
      · have HN := Lib.hid (cutRel_new HR.out hlt hg)
        have HB := Lib.hid hbd
        have SB := fun W => Lib.hid (stateBehind_any (kindN s[n].toNat) W)
        generalize kindN s[n].toNat = z' at *
        by_cases hmn : m < n
        · rw [if_pos hmn] at HN
          have HNW := Lib.hid (new_text wr (s.extract m n))
          have HTO := Lib.hid (textOne (s.extract m n))
          have hb2 := hb.alloc hb.size (.cells #[.string (s.extract m n)] 9)
          have hbz : w.heap.size ≤ (wr.alloc (.cells #[.string (s.extract m n)] 9)).heap.size := hb2.size
          rcases cutV_cases z with ⟨_, hst, hgo⟩ | ⟨_, hst, hgo⟩ | ⟨_, hst, hgo⟩ | ⟨hst, hgo⟩
          all_goals
            have hzb := (hgo z').symm.trans hg
            rw [hst]
            clear hgo hg hst
            go_wp2_with fail
            first
              | (go_at_call 200; refine (inLetters_any _ _).mono ?_; rintro e w2 ⟨rfl, rfl⟩)
              | (go_at_call 206; refine (inDigits_any _ _).mono ?_; rintro e w2 ⟨rfl, rfl⟩)
              | (go_at_call 207; refine (inGap_any _ _).mono ?_; rintro e w2 ⟨rfl, rfl⟩)
              | (go_at_call 158; refine (alone_any _ _).mono ?_; rintro e w2 ⟨rfl, rfl⟩)
            go_wp2_with (at_builtin; refine wpList_append_own _ rfl _ _ 67 rfl w.heap.size 9 i0 (.string ⟨#[]⟩) 1 16 Tryz.underlying67 hi hz0 hz1 hz2 rfl (by decide) _ xs.length (strCells xs) rfl (HO.out.alloc _) ⟨wr.heap.size, 0, none⟩ 1 1 [.string (s.extract m n)] rfl rfl HNW.out HTO.out (by unfold maxLen; omega) (by omega) hbz ?_; intro v' w3 hown3 hgrow3 _)
            have hb3 := hb2.grown hgrow3 hbz (fun k e => ((HO.out.alloc (.cells #[.string (s.extract m n)] 9)).lt k e).1)
            have HO3 := Lib.hid hown3
            clear hb hb2 hgrow3 hown3
            go_wp2_with fail
            refine (SB _).out.mono ?_
            rintro e w4 ⟨rfl, rfl⟩
            go_wp2
            go_roundw
            case rel => exact ⟨n + 1, n, z', xs ++ [s.extract m n], by omega, by go_num, rfl, rfl, HN.out, by rw [strCells_snoc, List.length_append]; exact HO3.out, hb3⟩
            case measure => simp only [intOf]; omega
        · rw [if_neg hmn] at HN
          have hmn' : n ≤ m := by omega
          clear hmn
          rcases cutV_cases z with ⟨_, hst, hgo⟩ | ⟨_, hst, hgo⟩ | ⟨_, hst, hgo⟩ | ⟨hst, hgo⟩
          all_goals
            have hzb := (hgo z').symm.trans hg
            rw [hst]
            clear hgo hg hst
            go_wp2_with fail
            first
              | (go_at_call 200; refine (inLetters_any _ _).mono ?_; rintro e w2 ⟨rfl, rfl⟩)
              | (go_at_call 206; refine (inDigits_any _ _).mono ?_; rintro e w2 ⟨rfl, rfl⟩)
              | (go_at_call 207; refine (inGap_any _ _).mono ?_; rintro e w2 ⟨rfl, rfl⟩)
              | (go_at_call 158; refine (alone_any _ _).mono ?_; rintro e w2 ⟨rfl, rfl⟩)
            go_wp2_with fail
            refine (SB _).out.mono ?_
            rintro e w4 ⟨rfl, rfl⟩
            go_wp2
            go_roundw
            case rel => exact ⟨n + 1, n, z', xs, by omega, by go_num, rfl, rfl, HN.out, HO.out, hb⟩
            case measure => simp only [intOf]; omega
      · have HN := Lib.hid (cutRel_on HR.out hlt hg)
        generalize kindN s[n].toNat = z' at *
        rcases cutV_cases z with ⟨_, hst, hgo⟩ | ⟨_, hst, hgo⟩ | ⟨_, hst, hgo⟩ | ⟨hst, hgo⟩
        case inr.inr.inr => rw [hgo] at hg; cases hg
        all_goals
          have hzb := (hgo z').symm.trans hg
          have HST := Lib.hid hst
          rw [hst]
          clear hgo hg hst
          go_wp2_with fail
          first
            | (go_at_call 200; refine (inLetters_any _ _).mono ?_; rintro e w2 ⟨rfl, rfl⟩)
            | (go_at_call 206; refine (inDigits_any _ _).mono ?_; rintro e w2 ⟨rfl, rfl⟩)
            | (go_at_call 207; refine (inGap_any _ _).mono ?_; rintro e w2 ⟨rfl, rfl⟩)
            | (go_at_call 158; refine (alone_any _ _).mono ?_; rintro e w2 ⟨rfl, rfl⟩)
          go_wp2
          go_roundw
          case rel => exact ⟨n + 1, m, z, xs, by omega, by go_num, rfl, HST.out.symm, HN.out, HO.out, hb⟩
          case measure => simp only [intOf]; omega
    · obtain rfl : n = s.size := by omega
      have HE := Lib.hid (cutRel_end HR.out)
      by_cases hmn : m < s.size
      · rw [if_pos hmn] at HE
        have HNW := Lib.hid (new_text wr (s.extract m s.size))
        have HTO := Lib.hid (textOne (s.extract m s.size))
        have hb2 := hb.alloc hb.size (.cells #[.string (s.extract m s.size)] 9)
        have hbz : w.heap.size ≤ (wr.alloc (.cells #[.string (s.extract m s.size)] 9)).heap.size := hb2.size
        go_wp2_with (at_builtin; refine wpList_append_own _ rfl _ _ 67 rfl w.heap.size 9 i0 (.string ⟨#[]⟩) 1 16 Tryz.underlying67 hi hz0 hz1 hz2 rfl (by decide) _ xs.length (strCells xs) rfl (HO.out.alloc _) ⟨wr.heap.size, 0, none⟩ 1 1 [.string (s.extract m s.size)] rfl rfl HNW.out HTO.out (by unfold maxLen; omega) (by omega) hbz ?_; intro v' w3 hown3 hgrow3 _)
        have hb3 := hb2.grown hgrow3 hbz (fun k e => ((HO.out.alloc (.cells #[.string (s.extract m s.size)] 9)).lt k e).1)
        have HO3 := Lib.hid hown3
        clear hb hb2 hgrow3 hown3
        go_wp2
        go_ret
        refine ⟨⟨_, rfl, ?_⟩, hb3⟩
        rw [HE.out, strCells_snoc, List.length_append]
        exact HO3.out
      · rw [if_neg hmn] at HE
        have hmn' : s.size ≤ m := by omega
        clear hmn
        go_wp2
        go_ret
        refine ⟨⟨_, rfl, ?_⟩, hb⟩
        rw [HE.out]
        exact HO.out
end Go.Proofs.YtljdbjfbcjigaaaGreatDoor

namespace Go.Proofs.YtljdbjfbcjigaaaGreatDoor
open Go.RowKit
set_option maxRecDepth 100000

/-- Words in memory of the call's own, and a flag. -/
def CutRet (p : List (Int × ByteArray) × Bool) (w : World) (e : Ending) (w' : World) : Prop :=
  (∃ v, e = .returned (.tuple #[v, .bool p.2]) ∧ w'.ownsRow w.heap.size 138 2 v p.1.length (wordCells p.1)) ∧ Below w.heap.size w w'
theorem wordCells_snoc : ∀ (l : List (Int × ByteArray)) (x : Int × ByteArray), wordCells (l ++ [x]) = wordCells l ++ [.int .i64 x.1, .string x.2]
  | [], _ => rfl
  | y :: l, x => by simp [wordCells, wordCells_snoc l x]
theorem wordOne (z : Int) (t : ByteArray) : ∀ u ∈ [Value.int .i64 z, Value.string t], u.oneCell' = true := by
  intro u hu
  simp at hu
  rcases hu with rfl | rfl <;> rfl
theorem new_word (w : World) (z : Int) (t : ByteArray) : ∀ (j : Nat) u, [Value.int .i64 z, Value.string t][j]? = some u → (w.alloc (.cells #[.int .i64 z, .string t] 138)).cell? ((⟨w.heap.size, 0, none⟩ : Addr).add j) = some u := by
  intro j u hu
  match j, hu with
  | 0, hu =>
    have : (⟨w.heap.size, 0, none⟩ : Addr).add 0 = ⟨w.heap.size, 0, none⟩ := rfl
    rw [this, alloc_cell]
    exact hu
  | 1, hu =>
    have : (⟨w.heap.size, 0, none⟩ : Addr).add 1 = ⟨w.heap.size, 1, none⟩ := rfl
    rw [this, alloc_cell]
    exact hu
  | j + 2, hu => simp at hu
theorem own_slice {w : World} {base e size n : Nat} {v : Value} {xs : List Value} (h : w.ownsRow base e size v n xs) : ∃ A cap, v = .slice A n cap := by
  rcases h.2 with ⟨rfl, rfl⟩ | ⟨g, cap, cur, rfl, _⟩
  · exact ⟨none, 0, rfl⟩
  · exact ⟨_, cap, rfl⟩
/-- Behind words acc, from i on. -/
def cutAt (s : ByteArray) (i : Nat) (acc : List (Int × ByteArray)) : Prop := cutF s 0 = (cutF s i).map (acc ++ ·) ∧ acc.length ≤ i
theorem cutAt_blank {s : ByteArray} {i : Nat} {acc : List (Int × ByteArray)} (h : cutAt s i acc) (hi : i < s.size) (hc : cls s[i].toNat = 4) : cutAt s (i + 1) acc := ⟨by rw [h.1, cutF_blank hi hc], by have := h.2; omega⟩
theorem cutAt_word {s : ByteArray} {i : Nat} {acc : List (Int × ByteArray)} (h : cutAt s i acc) (hi : i < s.size) (hc : cls s[i].toNat ≠ 4) (h0 : cls s[i].toNat ≠ 0) (hv : validB (wordKind (s.extract i (endC s i hi)) (cls s[i].toNat)) (s.extract i (endC s i hi)) = true) :
    cutAt s (endC s i hi) (acc ++ [(wordKind (s.extract i (endC s i hi)) (cls s[i].toNat), s.extract i (endC s i hi))]) := by
  refine ⟨?_, by have := h.2; have := endC_bd hi; simp; omega⟩
  rw [h.1, cutF_word hi hc h0 hv]
  cases cutF s (endC s i hi) <;> simp
theorem cutAt_bad {s : ByteArray} {i : Nat} {acc : List (Int × ByteArray)} (h : cutAt s i acc) (hn : cutF s i = none) : cutRes s = ([], false) := cutRes_none (by rw [h.1, hn]; rfl)
theorem cutAt_end {s : ByteArray} {i : Nat} {acc : List (Int × ByteArray)} (h : cutAt s i acc) (hi : ¬ i < s.size) : cutF s 0 = some acc := by rw [h.1, cutF_end hi]; simp
theorem endC_blank {s : ByteArray} {i : Nat} (h : i < s.size) (hc : 3 ≤ cls s[i].toNat) : endC s i h = i + 1 := by
  unfold endC
  refine scanP_stop (fun _ => ?_)
  unfold goCls
  rw [decide_eq_false (show ¬ cls s[i].toNat < 3 by omega), Bool.and_false]

theorem empty_own (w : World) (base : Nat) (hb : base ≤ w.heap.size) : (w.alloc (.cells #[] 138)).ownsRow base 138 2 (.slice (some ⟨w.heap.size, 0, none⟩) 0 0) 0 [] := by
  refine ⟨rfl, .inr ⟨w.heap.size, 0, #[], rfl, hb, ?_, Nat.le_refl _, by unfold maxLen; omega, rfl, rfl⟩⟩
  show (w.heap.push _)[w.heap.size]? = _
  simp
set_option maxHeartbeats 4000000 in
theorem specCutWords_any (s : ByteArray) (w : World) (hs : s.size ≤ 1048576) :
    Calls Tryz.prog 119 #[.string s] w (CutRet (cutRes s) w) := by
  obtain ⟨i0, hi, hz0, hz1, hz2⟩ := info_parts wordInfo
  by_cases hlong : 3000 < s.size
  · rw [cutRes_long hlong]
    have hpos : 0 < s.size := by omega
    go_enter Tryz.func119, Tryz.ntmps119
    go_wp2
    refine wp_loop_rounds 1 ?_
    rw [rounds_succ]
    go_wp2
    go_ret2
    have hbn := (Below.refl w.heap.size w).alloc (Nat.le_refl _) (.cells #[] 138)
    have he := empty_own _ _ hbn.size
    rw [World.size_alloc] at he
    exact ⟨⟨_, rfl, he⟩, hbn.alloc hbn.size _⟩
  have hle : s.size ≤ 3000 := by omega
  clear hlong hs
  go_enter Tryz.func119, Tryz.ntmps119
  go_wp2
  go_loopw [4, 5] (fun v i wr => ∃ (n : Nat) (acc : List (Int × ByteArray)), n ≤ s.size ∧ i = .int .i64 n ∧ cutAt s n acc ∧ wr.ownsRow w.heap.size 138 2 v acc.length (wordCells acc) ∧ Below w.heap.size w wr) (fun _ i _ => s.size - (intOf i).toNat)
  case atStart => exact ⟨0, [], Nat.zero_le _, rfl, ⟨by simp, Nat.le_refl _⟩, empty_own _ _ (Nat.le_refl _), (Below.refl _ _).alloc (Nat.le_refl _) _⟩
  case round =>
    obtain ⟨n, acc, hn, rfl, hat, hown, hb⟩ := hrel
    have HAT := Lib.hid hat
    have hacc : acc.length ≤ n := hat.2
    have HO := Lib.hid hown
    clear hat hown
    obtain ⟨wo, rfl⟩ : ∃ wo : World, wo = wr := ⟨_, rfl⟩
    by_cases hlt : n < s.size
    · have CL := Lib.hid (l1Class_any s[n] wo)
      have hbd := endC_bd hlt
      have hcr := cls_range s[n].toNat
      go_wp2_with fail
      refine CL.out.mono ?_
      rintro e w1 ⟨rfl, rfl⟩
      clear CL
      obtain ⟨c, hc⟩ : ∃ c, c = cls s[n].toNat := ⟨_, rfl⟩
      obtain ⟨E, hE⟩ : ∃ E, E = endC s n hlt := ⟨_, rfl⟩
      have HSC := Lib.hid (show scanP s (goCls c) (n + 1) = E by rw [hc, hE]; rfl)
      rw [← hc] at hcr ⊢
      rw [← hE] at hbd
      have HC := Lib.hid hc
      have HEE := Lib.hid hE
      clear hc hE
      go_upto_block 2 with (fail)
      go_cut [7] (fun k wx => k = .int .i64 (E : Int) ∧ wx = wo)
      case first =>
        go_wp2
        go_loop [7] (fun k => ∃ m : Nat, n + 1 ≤ m ∧ m ≤ s.size ∧ k = .int .i64 m ∧ scanP s (goCls c) m = E) (fun k => s.size - (intOf k).toNat)
        case atStart => exact ⟨n + 1, Nat.le_refl _, hlt, by go_num, HSC.out⟩
        case round =>
          obtain ⟨m, hm1, hm2, rfl, hsc⟩ := hrel
          have HM := Lib.hid hsc
          clear hsc
          by_cases hms : m < s.size
          · have CM := Lib.hid (l1Class_any s[m] wo)
            have HD := Lib.hid (show goCls c s[m] = (cls s[m].toNat == c && decide (c < 3)) from rfl)
            generalize hcm : cls s[m].toNat = c2 at *
            clear hcm
            go_wp2_with fail
            refine CM.out.mono ?_
            rintro e w1 ⟨rfl, rfl⟩
            by_cases h2 : c2 = c
            · by_cases h3 : c < 3
              · have b2 : (c2 == c) = true := beq_iff_eq.2 h2
                have HN := Lib.hid (scanP_step (p := goCls c) hms (by rw [HD.out, b2, decide_eq_true h3]; rfl))
                clear h2
                go_wp2
                go_round
                case rel => exact ⟨m + 1, by omega, hms, by go_num, by rw [← HN.out]; exact HM.out⟩
                case measure => simp only [intOf]; omega
              · have b2 : (c2 == c) = true := beq_iff_eq.2 h2
                have HN := Lib.hid (scanP_stop (s := s) (p := goCls c) (k := m) (fun h => by rw [HD.out, decide_eq_false h3, Bool.and_false]))
                have HX := Lib.hid (HN.out.symm.trans HM.out)
                have h3' : 3 ≤ c := by omega
                clear h2 h3
                go_wp2
                go_meet
                exact ⟨by rw [← HX.out], rfl⟩
            · have b2 : (c2 == c) = false := by rw [beq_eq_false_iff_ne]; exact h2
              have HN := Lib.hid (scanP_stop (s := s) (p := goCls c) (k := m) (fun h => by rw [HD.out, b2, Bool.false_and]))
              have HX := Lib.hid (HN.out.symm.trans HM.out)
              clear h2
              go_wp2
              go_meet
              exact ⟨by rw [← HX.out], rfl⟩
          · have HN := Lib.hid (scanP_stop (s := s) (p := goCls c) (k := m) (fun h => absurd h hms))
            have HX := Lib.hid (HN.out.symm.trans HM.out)
            have hms' : s.size ≤ m := by omega
            clear hms
            go_wp2
            go_meet
            exact ⟨by rw [← HX.out], rfl⟩
      case rest =>
        obtain ⟨rfl, rfl⟩ := hcut
        have hbs := hb.size
        by_cases h4 : c = 4
        · subst h4
          have hE1 : E = n + 1 := by rw [HEE.out]; exact endC_blank hlt (by rw [← HC.out]; omega)
          have HN := Lib.hid (cutAt_blank HAT.out hlt HC.out.symm)
          have HE1 := Lib.hid hE1
          clear hE1
          go_wp2
          go_roundw
          case rel => exact ⟨E, acc, hbd.2, rfl, by rw [HE1.out]; exact HN.out, HO.out, hb⟩
          case measure => simp only [intOf]; omega
        have b4 : (c == 4) = false := by rw [beq_eq_false_iff_ne]; exact h4
        have b4' : (c != 4) = true := by rw [bne, b4]; rfl
        by_cases h0 : c = 0
        · subst h0
          have HR := Lib.hid (cutAt_bad HAT.out (cutF_bad hlt (by rw [← HC.out]; omega) (.inl HC.out.symm)))
          have HEM := Lib.hid (empty_own wc _ hbs)
          have hbn := hb.alloc hbs (.cells #[] 138)
          clear h4
          go_wp2
          go_ret2
          rw [HR.out]
          exact ⟨⟨_, rfl, HEM.out⟩, hbn⟩
        have b0 : (c == 0) = false := by rw [beq_eq_false_iff_ne]; exact h0
        obtain ⟨t0, tg⟩ := extract_get hbd.1 hbd.2
        have LW := fun W => l1Word_any (s.extract n E) W t0
        rw [tg, ← HC.out] at LW
        replace LW := fun W => Lib.hid (LW W)
        have htz : (s.extract n E).size ≤ 1048576 := by rw [ByteArray.size_extract]; omega
        have VW := fun W => Lib.hid (specWordValid_any (wordKind (s.extract n E) c) (s.extract n E) W htz)
        have HV0 : validB (wordKind (s.extract n (endC s n hlt)) (cls s[n].toNat)) (s.extract n (endC s n hlt)) = validB (wordKind (s.extract n E) c) (s.extract n E) := by rw [← HEE.out, ← HC.out]
        cases hv : validB (wordKind (s.extract n E) c) (s.extract n E)
        · have HR := Lib.hid (cutAt_bad HAT.out (cutF_bad hlt (by rw [← HC.out]; exact h4) (.inr (HV0.trans hv))))
          rw [hv] at VW
          clear HV0 hv htz tg t0 h4 h0
          generalize wordKind (s.extract n E) c = kd at *
          go_wp2_with fail
          refine (LW _).out.mono ?_
          rintro e w2 ⟨rfl, hb2⟩
          go_wp2_with fail
          refine (VW _).out.mono ?_
          rintro e w3 ⟨rfl, hb3⟩
          have hb4 := (hb.trans (hb2.mono hbs)).trans (hb3.mono (Nat.le_trans hbs hb2.size))
          have HEM := Lib.hid (empty_own w3 _ hb4.size)
          have hbn := hb4.alloc hb4.size (.cells #[] 138)
          clear hb hb2 hb3 hb4
          go_wp2
          go_ret2
          rw [HR.out]
          exact ⟨⟨_, rfl, HEM.out⟩, hbn⟩
        · have HN0 := cutAt_word HAT.out hlt (by rw [← HC.out]; exact h4) (by rw [← HC.out]; exact h0) (HV0.trans hv)
          rw [← HEE.out, ← HC.out] at HN0
          have HN := Lib.hid HN0
          rw [hv] at VW
          clear HV0 HN0 hv htz tg t0 h4 h0
          generalize wordKind (s.extract n E) c = kd at *
          go_wp2_with fail
          refine (LW _).out.mono ?_
          rintro e w2 ⟨rfl, hb2⟩
          go_wp2_with fail
          refine (VW _).out.mono ?_
          rintro e w3 ⟨rfl, hb3⟩
          have hb4 := (hb.trans (hb2.mono hbs)).trans (hb3.mono (Nat.le_trans hbs hb2.size))
          have HO3 := Lib.hid ((HO.out.kept (w' := w2) (row := none) ⟨hb2.os, hb2.tape, hb2.output, hb2.size, fun i hi _ => hb2.block i hi⟩ (Classical.em _)).kept (w' := w3) (row := none) ⟨hb3.os, hb3.tape, hb3.output, hb3.size, fun i hi _ => hb3.block i hi⟩ (Classical.em _))
          clear hb hb2 hb3
          go_wp2_with fail
          refine (LW _).out.mono ?_
          rintro e w4 ⟨rfl, hb5⟩
          have hb6 := hb4.trans (hb5.mono hb4.size)
          have HO4 := Lib.hid (HO3.out.kept (w' := w4) (row := none) ⟨hb5.os, hb5.tape, hb5.output, hb5.size, fun i hi _ => hb5.block i hi⟩ (Classical.em _))
          have HNW := Lib.hid (new_word w4 kd (s.extract n E))
          have HTO := Lib.hid (wordOne kd (s.extract n E))
          have hb7 := hb6.alloc hb6.size (.cells #[.int .i64 kd, .string (s.extract n E)] 138)
          have hbz : w.heap.size ≤ (w4.alloc (.cells #[.int .i64 kd, .string (s.extract n E)] 138)).heap.size := hb7.size
          clear hb4 hb5 hb6
          go_wp2_with (at_builtin; refine wpList_append_own _ rfl _ _ 88 rfl w.heap.size 138 i0 (.agg #[.int .i64 0, .string ⟨#[]⟩]) 2 24 Tryz.underlying88 hi hz0 hz1 hz2 rfl (by decide) _ acc.length (wordCells acc) rfl (HO4.out.alloc _) ⟨w4.heap.size, 0, none⟩ 1 1 [.int .i64 kd, .string (s.extract n E)] rfl rfl HNW.out HTO.out (by unfold maxLen; omega) (by omega) hbz ?_; intro v' w5 hown5 hgrow5 _)
          have hb8 := hb7.grown hgrow5 hbz (fun k e => ((HO4.out.alloc (.cells #[.int .i64 kd, .string (s.extract n E)] 138)).lt k e).1)
          have HO5 := Lib.hid hown5
          clear hb7 hgrow5 hown5
          go_wp2
          go_roundw
          case rel => exact ⟨E, acc ++ [(kd, s.extract n E)], hbd.2, rfl, HN.out, by rw [wordCells_snoc, List.length_append]; exact HO5.out, hb8⟩
          case measure => simp only [intOf]; omega
    · obtain rfl : n = s.size := by omega
      have HE := Lib.hid (cutAt_end HAT.out (by omega))
      have hm : acc.length ≤ 600 ∨ 600 < acc.length := by omega
      obtain ⟨A, cap, rfl⟩ := own_slice HO.out
      rcases hm with hm | hm
      · have HR := Lib.hid (cutRes_yes hle HE.out hm)
        go_wp2
        go_ret2
        rw [HR.out]
        exact ⟨⟨_, rfl, HO.out⟩, hb⟩
      · have HR := Lib.hid (cutRes_many (s := s) (fun ws h => by rw [HE.out] at h; cases h; exact hm))
        have hbn := hb.alloc hb.size (.cells #[] 138)
        have hbs := hb.size
        go_wp2
        go_ret2
        rw [HR.out]
        exact ⟨⟨_, rfl, empty_own _ _ hbs⟩, hbn⟩
end Go.Proofs.YtljdbjfbcjigaaaGreatDoor
