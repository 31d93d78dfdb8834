/-
  Cutting: what the functions on runs and words return.
-/
import Derived.Test.YtljoipgpkmdjbaaDoorCutM
import Derived.Test.YtljoipgpkmdjbaaDoorJoin
namespace Go.Proofs.YtljoipgpkmdjbaaDoor
open Go.RowKit
set_option maxRecDepth 100000

/-- A word, and new blocks at most. -/
def WordRet (z : Int) (t : ByteArray) (w : World) (e : Ending) (w' : World) : Prop := e = .returned (.agg #[.int .i64 z, .string t]) ∧ Below w.heap.size w w'

/-- A variable of the call's own, behind a callee: its cells are there, and can be written. -/
theorem own_cells {w w2 : World} {c0 c1 : Value} {t : TypeId} (hb : Below (w.alloc (.cells #[c0, c1] t (0, 0))).heap.size (w.alloc (.cells #[c0, c1] t (0, 0))) w2) :
    w2.cell? ⟨w.heap.size, 0, none⟩ = some c0 ∧ w2.cell? ⟨w.heap.size, 1, none⟩ = some c1 ∧ w2.frozen? ⟨w.heap.size, 0, none⟩ = false ∧ w2.frozen? ⟨w.heap.size, 1, none⟩ = false := by
  have hlt : w.heap.size < (w.alloc (.cells #[c0, c1] t (0, 0))).heap.size := by show _ < (w.heap.push _).size; simp
  refine ⟨?_, ?_, ?_, ?_⟩
  · rw [hb.cell (p := ⟨w.heap.size, 0, none⟩) hlt, alloc_cell]; rfl
  · rw [hb.cell (p := ⟨w.heap.size, 1, none⟩) hlt, alloc_cell]; rfl
  · rw [hb.frozen (p := ⟨w.heap.size, 0, none⟩) hlt, alloc_frozen]
  · rw [hb.frozen (p := ⟨w.heap.size, 1, none⟩) hlt, alloc_frozen]

theorem own_set {w : World} {b : Nat} {c0 c1 : Value} (h0 : w.cell? ⟨b, 0, none⟩ = some c0) (h1 : w.cell? ⟨b, 1, none⟩ = some c1) :
    (∀ z, (w.setCell ⟨b, 0, none⟩ z).cell? ⟨b, 0, none⟩ = some z) ∧ (∀ z t, ((w.setCell ⟨b, 0, none⟩ z).setCell ⟨b, 1, none⟩ t).cell? ⟨b, 1, none⟩ = some t) := by
  refine ⟨fun z => World.cell?_setCell_same _ _ _ h0, fun z t => ?_⟩
  exact World.cell?_setCell_same _ _ _ (u := c1) (by rw [World.cell?_setCell_other _ _ _ _ (by simp)]; exact h1)
set_option maxHeartbeats 400000 in
theorem l1Word_any (t : ByteArray) (w : World) (h0 : 0 < t.size) :
    Calls Tryd.prog 38 #[.string t] w (WordRet (wordKind t (cls t[0].toNat)) t w) := by
  have C1 := fun W => Lib.hid (l1Class_any t[0] W)
  have C2 := fun W => Lib.hid (l1Key_any t W)
  unfold wordKind
  generalize cls t[0].toNat = z at *
  have hb0 : Below w.heap.size w (w.alloc (.cells #[.int .i64 0, .string ⟨#[]⟩] 28)) := (Below.refl _ _).alloc (Nat.le_refl _) _
  cases hk : isKeyB t
  all_goals
    rw [hk] at C2
    clear hk
    go_enter Tryd.func38, Tryd.ntmps38
    go_wp2_with fail
    refine (C1 _).out.mono ?_
    rintro e w1 ⟨rfl, rfl⟩
    go_wp2_with fail
    refine (C2 _).out.mono ?_
    rintro e w2 ⟨rfl, hb2⟩
    obtain ⟨k0, k1, k2, k3⟩ := own_cells hb2
    have hb3 := hb0.trans (hb2.mono hb0.size)
    clear hb0 hb2 C1 C2
    obtain ⟨g0, g1⟩ := own_set k0 k1
    go_wp2
    refine bodyPost_ret (v := .agg #[.int .i64 _, .string t]) (by simp [results, Tryd.results38, go_sem, g0, g1]; rfl) rfl ?_
    exact ⟨rfl, (hb3.setCell (Nat.le_refl _) _).setCell (Nat.le_refl _) _⟩

set_option maxHeartbeats 400000 in
theorem wordOf_any (t : ByteArray) (w : World) (h0 : 0 < t.size) (T : Tabs w) :
    Calls Tryd.prog 52 #[.string t] w (WordRet (runKind t) t w) := by
  have hb0 : Below w.heap.size w (w.alloc (.cells #[.int .i64 0, .string ⟨#[]⟩] 28)) := (Below.refl _ _).alloc (Nat.le_refl _) _
  have T1 := T.below hb0
  have C1 := Lib.hid (isKey_any t _ T1)
  have C2 := Lib.hid (kindOfByte_any t[0] _ T1)
  unfold runKind
  rw [dif_pos h0]
  generalize kindN t[0].toNat = z at *
  cases hk : isKeyB t
  all_goals
    rw [hk] at C1
    clear hk T T1
    go_enter Tryd.func52, Tryd.ntmps52
    go_wp2_with fail
    refine C1.out.mono ?_
    rintro e w1 ⟨rfl, rfl⟩
    go_wp2_with fail
  · refine C2.out.mono ?_
    rintro e w2 ⟨rfl, rfl⟩
    clear C1 C2
    go_wp2
    go_returns
    exact ⟨rfl, (Below.refl _ _).alloc (Nat.le_refl _) _⟩
  · clear C1 C2
    go_wp2
    go_returns
    exact ⟨rfl, (Below.refl _ _).alloc (Nat.le_refl _) _⟩

/-- The state of a cutter behind a kind, as a value. -/
def stV (z : Int) : Value := if z = 1 then .func (.func 65) #[] #[] else if z = 2 then .func (.func 91) #[] #[] else if z = 5 then .func (.func 92) #[] #[] else .func (.func 74) #[] #[]
/-- Does a kind go on with a state? -/
def goB (z z' : Int) : Bool := z' == z && (z == 1 || z == 2 || z == 5)
theorem goB_kind (z : Int) (b : UInt8) : goB z (kindN b.toNat) = goKind z b := rfl
set_option maxHeartbeats 400000 in
theorem inDigits_any (n : Int) (w : World) :
    Calls Tryd.prog 91 #[.int .i64 n] w fun e w' => e = .returned (.bool (n == 2)) ∧ w = w' := by
  go_enter Tryd.func91, Tryd.ntmps91
  go_wp2
  go_ret
  exact ⟨rfl, rfl⟩
set_option maxHeartbeats 400000 in
theorem inGap_any (n : Int) (w : World) :
    Calls Tryd.prog 92 #[.int .i64 n] w fun e w' => e = .returned (.bool (n == 5)) ∧ w = w' := by
  go_enter Tryd.func92, Tryd.ntmps92
  go_wp2
  go_ret
  exact ⟨rfl, rfl⟩
set_option maxHeartbeats 400000 in
theorem alone_any (n : Int) (w : World) :
    Calls Tryd.prog 74 #[.int .i64 n] w fun e w' => e = .returned (.bool false) ∧ w = w' := by
  go_enter Tryd.func74, Tryd.ntmps74
  go_wp2
  go_ret
  exact ⟨rfl, rfl⟩
set_option maxHeartbeats 400000 in
theorem stateBehind_any (z : Int) (w : World) :
    Calls Tryd.prog 75 #[.int .i64 z] w fun e w' => e = .returned (stV z) ∧ w = w' := by
  unfold stV
  by_cases h1 : z = 1
  · subst h1
    rw [if_pos rfl]
    go_enter Tryd.func75, Tryd.ntmps75
    go_wp2
    go_ret
    exact ⟨rfl, rfl⟩
  by_cases h2 : z = 2
  · subst h2
    rw [if_neg (by omega), if_pos rfl]
    go_enter Tryd.func75, Tryd.ntmps75
    go_wp2
    go_ret
    exact ⟨rfl, rfl⟩
  by_cases h5 : z = 5
  · subst h5
    rw [if_neg (by omega), if_neg (by omega), if_pos rfl]
    go_enter Tryd.func75, Tryd.ntmps75
    go_wp2
    go_ret
    exact ⟨rfl, rfl⟩
  · rw [if_neg h1, if_neg h2, if_neg h5]
    have b1 : (z == 1) = false := by rw [beq_eq_false_iff_ne]; exact h1
    have b2 : (z == 2) = false := by rw [beq_eq_false_iff_ne]; exact h2
    have b5 : (z == 5) = false := by rw [beq_eq_false_iff_ne]; exact h5
    clear h1 h2 h5
    go_enter Tryd.func75, Tryd.ntmps75
    go_wp2
    go_ret
    exact ⟨rfl, rfl⟩

/-- Texts as values. -/
def strCells (l : List ByteArray) : List Value := l.map Value.string
theorem strCells_snoc (l : List ByteArray) (t : ByteArray) : strCells (l ++ [t]) = strCells l ++ [.string t] := by unfold strCells; simp
theorem strCells_len (l : List ByteArray) : (strCells l).length = l.length := by unfold strCells; simp

/-- Where a cutter of runs stands: i bytes are gone through, the run that has been begun begins at b, its kind is z. -/
def cutRel (s : ByteArray) (i b : Nat) (z : Int) (xs : List ByteArray) : Prop :=
  (i = 0 ∧ b = 0 ∧ z = 0 ∧ xs = []) ∨ (∃ h : b < i, ∃ hi : i ≤ s.size, z = kindN (s[b]'(by omega)).toNat ∧ runsF s 0 = xs ++ runsF s b ∧ endK s b (by omega) = scanP s (goKind z) i ∧ xs.length ≤ b)
theorem cutRel_on {s : ByteArray} {i b : Nat} {z : Int} {xs : List ByteArray} (h : cutRel s i b z xs) (hi : i < s.size) (hg : goB z (kindN s[i].toNat) = true) : cutRel s (i + 1) b z xs := by
  rcases h with ⟨_, _, rfl, _⟩ | ⟨h1, h2, h3, h4, h5, h6⟩
  · unfold goB at hg; simp at hg
  · exact .inr ⟨by omega, hi, h3, h4, by rw [h5, scanP_step hi (by rw [← goB_kind]; exact hg)], h6⟩
theorem cutRel_new {s : ByteArray} {i b : Nat} {z : Int} {xs : List ByteArray} (h : cutRel s i b z xs) (hi : i < s.size) (hg : goB z (kindN s[i].toNat) = false) :
    cutRel s (i + 1) i (kindN s[i].toNat) (if b < i then xs ++ [s.extract b i] else xs) := by
  rcases h with ⟨rfl, rfl, _, rfl⟩ | ⟨h1, h2, h3, h4, h5, h6⟩
  · right
    refine ⟨by omega, hi, rfl, by simp, rfl, by simp⟩
  · right
    rw [if_pos h1]
    have he : endK s b (by omega) = i := by
      rw [h5]; exact scanP_stop (fun h => by rw [← goB_kind]; exact hg)
    refine ⟨by omega, hi, rfl, ?_, rfl, by simp; omega⟩
    rw [h4, runsF_step (show b < s.size by omega), he]
    simp
theorem cutRel_end {s : ByteArray} {b : Nat} {z : Int} {xs : List ByteArray} (h : cutRel s s.size b z xs) : runsF s 0 = if b < s.size then xs ++ [s.extract b s.size] else xs := by
  rcases h with ⟨h1, rfl, _, rfl⟩ | ⟨h1, h2, h3, h4, h5, h6⟩
  · rw [if_neg (by omega), runsF_end (by omega)]
  · rw [if_pos h1]
    have he : endK s b h1 = s.size := by
      have := scanP_stop (s := s) (p := goKind z) (k := s.size) (fun h => absurd h (by omega))
      rw [this] at h5; exact h5
    rw [h4, runsF_step h1, he, runsF_end (by omega)]
theorem cutRel_bd {s : ByteArray} {i b : Nat} {z : Int} {xs : List ByteArray} (h : cutRel s i b z xs) : b ≤ i ∧ xs.length ≤ b := by
  rcases h with ⟨rfl, rfl, _, rfl⟩ | ⟨h1, _, _, _, _, h6⟩
  · simp
  · omega

/-- Texts in memory of the call's own. -/
def RunsRet (l : List ByteArray) (w : World) (e : Ending) (w' : World) : Prop :=
  (∃ v, e = .returned v ∧ w'.ownsRow w.heap.size 9 1 v l.length (strCells l)) ∧ Below w.heap.size w w'
theorem cutV_cases (z : Int) : (z = 1 ∧ stV z = .func (.func 65) #[] #[] ∧ ∀ z', goB z z' = (z' == 1)) ∨ (z = 2 ∧ stV z = .func (.func 91) #[] #[] ∧ ∀ z', goB z z' = (z' == 2)) ∨
    (z = 5 ∧ stV z = .func (.func 92) #[] #[] ∧ ∀ z', goB z z' = (z' == 5)) ∨ (stV z = .func (.func 74) #[] #[] ∧ ∀ z', goB z z' = false) := by
  by_cases h1 : z = 1
  · subst h1; left; exact ⟨rfl, rfl, fun z' => by unfold goB; simp⟩
  by_cases h2 : z = 2
  · subst h2; right; left; exact ⟨rfl, rfl, fun z' => by unfold goB; simp⟩
  by_cases h5 : z = 5
  · subst h5; right; right; left; exact ⟨rfl, rfl, fun z' => by unfold goB; simp⟩
  · right; right; right
    refine ⟨by unfold stV; rw [if_neg h1, if_neg h2, if_neg h5], fun z' => ?_⟩
    unfold goB
    have b1 : (z == 1) = false := by rw [beq_eq_false_iff_ne]; exact h1
    have b2 : (z == 2) = false := by rw [beq_eq_false_iff_ne]; exact h2
    have b5 : (z == 5) = false := by rw [beq_eq_false_iff_ne]; exact h5
    rw [b1, b2, b5]; simp
theorem textOne : ∀ (t : ByteArray), ∀ u ∈ [Value.string t], u.oneCell' = true := by intro t u hu; simp at hu; subst hu; rfl

set_option maxHeartbeats 4000000 in
theorem cutRuns_any (s : ByteArray) (w : World) (hs : s.size ≤ 3000) (T : Tabs w) :
    Calls Tryd.prog 51 #[.string s] w (RunsRet (runsF s 0) w) := by
  obtain ⟨i0, hi, hz0, hz1, hz2⟩ := info_parts stringInfo
  go_enter Tryd.func51, Tryd.ntmps51
  go_wp2
  go_loopw [3, 4, 5, 10] (fun v b st i wr => ∃ (n m : Nat) (z : Int) (xs : List ByteArray), n ≤ s.size ∧ i = .int .i64 n ∧ b = .int .i64 m ∧ st = stV z ∧ cutRel s n m z xs ∧ wr.ownsRow w.heap.size 9 1 v xs.length (strCells xs) ∧ Below w.heap.size w wr) (fun _ _ _ i _ => s.size - (intOf i).toNat)
  case atStart => exact ⟨0, 0, 0, [], Nat.zero_le _, rfl, rfl, rfl, .inl ⟨rfl, rfl, rfl, rfl⟩, ⟨rfl, .inl ⟨rfl, rfl⟩⟩, Below.refl _ _⟩
  case round =>
    obtain ⟨n, m, z, xs, hn, rfl, rfl, rfl, hrel, hown, hb⟩ := hrel
    have hbd := cutRel_bd hrel
    have HR := Lib.hid hrel
    have HO := Lib.hid hown
    clear hrel hown
    by_cases hlt : n < s.size
    · have KB := Lib.hid (kindOfByte_any s[n] wr (T.below hb))
      go_wp2_with fail
      refine KB.out.mono ?_
      rintro e w1 ⟨rfl, rfl⟩
      clear KB
      cases hg : goB z (kindN s[n].toNat)
      · have HN := Lib.hid (cutRel_new HR.out hlt hg)
        have HB := Lib.hid hbd
        have SB := fun W => Lib.hid (stateBehind_any (kindN s[n].toNat) W)
        generalize kindN s[n].toNat = z' at *
        by_cases hmn : m < n
        · rw [if_pos hmn] at HN
          have HNW := Lib.hid (new_text wr (s.extract m n))
          have HTO := Lib.hid (textOne (s.extract m n))
          have hb2 := hb.alloc hb.size (.cells #[.string (s.extract m n)] 9)
          have hbz : w.heap.size ≤ (wr.alloc (.cells #[.string (s.extract m n)] 9)).heap.size := hb2.size
          rcases cutV_cases z with ⟨_, hst, hgo⟩ | ⟨_, hst, hgo⟩ | ⟨_, hst, hgo⟩ | ⟨hst, hgo⟩
          all_goals
            have hzb := (hgo z').symm.trans hg
            rw [hst]
            clear hgo hg hst
            go_wp2_with fail
            first
              | (go_at_call 65; refine (inLetters_any _ _).mono ?_; rintro e w2 ⟨rfl, rfl⟩)
              | (go_at_call 91; refine (inDigits_any _ _).mono ?_; rintro e w2 ⟨rfl, rfl⟩)
              | (go_at_call 92; refine (inGap_any _ _).mono ?_; rintro e w2 ⟨rfl, rfl⟩)
              | (go_at_call 74; refine (alone_any _ _).mono ?_; rintro e w2 ⟨rfl, rfl⟩)
            go_wp2_with (at_builtin; refine wpList_append_own _ rfl _ _ 46 rfl w.heap.size 9 i0 (.string ⟨#[]⟩) 1 16 Tryd.underlying46 hi hz0 hz1 hz2 rfl (by decide) _ xs.length (strCells xs) rfl (HO.out.alloc _) ⟨wr.heap.size, 0, none⟩ 1 1 [.string (s.extract m n)] rfl rfl HNW.out HTO.out (by unfold maxLen; omega) (by omega) hbz ?_; intro v' w3 hown3 hgrow3 _)
            have hb3 := hb2.grown hgrow3 hbz (fun k e => ((HO.out.alloc (.cells #[.string (s.extract m n)] 9)).lt k e).1)
            have HO3 := Lib.hid hown3
            clear hb hb2 hgrow3 hown3
            go_wp2_with fail
            refine (SB _).out.mono ?_
            rintro e w4 ⟨rfl, rfl⟩
            go_wp2
            go_roundw
            case rel => exact ⟨n + 1, n, z', xs ++ [s.extract m n], by omega, by go_num, rfl, rfl, HN.out, by rw [strCells_snoc, List.length_append]; exact HO3.out, hb3⟩
            case measure => simp only [intOf]; omega
        · rw [if_neg hmn] at HN
          have hmn' : n ≤ m := by omega
          clear hmn
          rcases cutV_cases z with ⟨_, hst, hgo⟩ | ⟨_, hst, hgo⟩ | ⟨_, hst, hgo⟩ | ⟨hst, hgo⟩
          all_goals
            have hzb := (hgo z').symm.trans hg
            rw [hst]
            clear hgo hg hst
            go_wp2_with fail
            first
              | (go_at_call 65; refine (inLetters_any _ _).mono ?_; rintro e w2 ⟨rfl, rfl⟩)
              | (go_at_call 91; refine (inDigits_any _ _).mono ?_; rintro e w2 ⟨rfl, rfl⟩)
              | (go_at_call 92; refine (inGap_any _ _).mono ?_; rintro e w2 ⟨rfl, rfl⟩)
              | (go_at_call 74; refine (alone_any _ _).mono ?_; rintro e w2 ⟨rfl, rfl⟩)
            go_wp2_with fail
            refine (SB _).out.mono ?_
            rintro e w4 ⟨rfl, rfl⟩
            go_wp2
            go_roundw
            case rel => exact ⟨n + 1, n, z', xs, by omega, by go_num, rfl, rfl, HN.out, HO.out, hb⟩
            case measure => simp only [intOf]; omega
      · have HN := Lib.hid (cutRel_on HR.out hlt hg)
        generalize kindN s[n].toNat = z' at *
        rcases cutV_cases z with ⟨_, hst, hgo⟩ | ⟨_, hst, hgo⟩ | ⟨_, hst, hgo⟩ | ⟨hst, hgo⟩
        case inr.inr.inr => rw [hgo] at hg; cases hg
        all_goals
          have hzb := (hgo z').symm.trans hg
          have HST := Lib.hid hst
          rw [hst]
          clear hgo hg hst
          go_wp2_with fail
          first
            | (go_at_call 65; refine (inLetters_any _ _).mono ?_; rintro e w2 ⟨rfl, rfl⟩)
            | (go_at_call 91; refine (inDigits_any _ _).mono ?_; rintro e w2 ⟨rfl, rfl⟩)
            | (go_at_call 92; refine (inGap_any _ _).mono ?_; rintro e w2 ⟨rfl, rfl⟩)
            | (go_at_call 74; refine (alone_any _ _).mono ?_; rintro e w2 ⟨rfl, rfl⟩)
          go_wp2
          go_roundw
          case rel => exact ⟨n + 1, m, z, xs, by omega, by go_num, rfl, HST.out.symm, HN.out, HO.out, hb⟩
          case measure => simp only [intOf]; omega
    · obtain rfl : n = s.size := by omega
      have HE := Lib.hid (cutRel_end HR.out)
      by_cases hmn : m < s.size
      · rw [if_pos hmn] at HE
        have HNW := Lib.hid (new_text wr (s.extract m s.size))
        have HTO := Lib.hid (textOne (s.extract m s.size))
        have hb2 := hb.alloc hb.size (.cells #[.string (s.extract m s.size)] 9)
        have hbz : w.heap.size ≤ (wr.alloc (.cells #[.string (s.extract m s.size)] 9)).heap.size := hb2.size
        go_wp2_with (at_builtin; refine wpList_append_own _ rfl _ _ 46 rfl w.heap.size 9 i0 (.string ⟨#[]⟩) 1 16 Tryd.underlying46 hi hz0 hz1 hz2 rfl (by decide) _ xs.length (strCells xs) rfl (HO.out.alloc _) ⟨wr.heap.size, 0, none⟩ 1 1 [.string (s.extract m s.size)] rfl rfl HNW.out HTO.out (by unfold maxLen; omega) (by omega) hbz ?_; intro v' w3 hown3 hgrow3 _)
        have hb3 := hb2.grown hgrow3 hbz (fun k e => ((HO.out.alloc (.cells #[.string (s.extract m s.size)] 9)).lt k e).1)
        have HO3 := Lib.hid hown3
        clear hb hb2 hgrow3 hown3
        go_wp2
        go_ret
        refine ⟨⟨_, rfl, ?_⟩, hb3⟩
        rw [HE.out, strCells_snoc, List.length_append]
        exact HO3.out
      · rw [if_neg hmn] at HE
        have hmn' : s.size ≤ m := by omega
        clear hmn
        go_wp2
        go_ret
        refine ⟨⟨_, rfl, ?_⟩, hb⟩
        rw [HE.out]
        exact HO.out
end Go.Proofs.YtljoipgpkmdjbaaDoor
