/-
  Plain mathematics of cutting, upon lists: two texts with a blank between, a strange byte, line feeds for blanks.
-/
import Derived.Test.YtljoipgpkmdjbaaDoorCutM
namespace Go.Proofs.YtljoipgpkmdjbaaDoor
open Go.RowKit

/-- The words of bytes; none if there is a wrong one. -/
noncomputable def cutLN : Nat → List UInt8 → Option (List (Int × ByteArray))
  | 0, _ => some []
  | _ + 1, [] => some []
  | n + 1, b :: r =>
      if cls b.toNat = 4 then cutLN n r
      else if cls b.toNat ≠ 0 ∧ validB (wordKind ⟨(b :: r.takeWhile (goCls (cls b.toNat))).toArray⟩ (cls b.toNat)) ⟨(b :: r.takeWhile (goCls (cls b.toNat))).toArray⟩ = true then
        (cutLN n (r.dropWhile (goCls (cls b.toNat)))).map ((wordKind ⟨(b :: r.takeWhile (goCls (cls b.toNat))).toArray⟩ (cls b.toNat), ⟨(b :: r.takeWhile (goCls (cls b.toNat))).toArray⟩) :: ·)
      else none
theorem dropWhile_le (p : UInt8 → Bool) : ∀ l : List UInt8, (l.dropWhile p).length ≤ l.length
  | [] => Nat.le_refl _
  | b :: r => by
    rw [List.dropWhile_cons]
    split
    · have := dropWhile_le p r; rw [List.length_cons]; omega
    · exact Nat.le_refl _
theorem cutLN_fuel : ∀ (n m : Nat) (l : List UInt8), l.length ≤ n → l.length ≤ m → cutLN n l = cutLN m l
  | 0, 0, _, _, _ => rfl
  | 0, m + 1, [], _, _ => rfl
  | n + 1, 0, [], _, _ => rfl
  | n + 1, m + 1, [], _, _ => rfl
  | 0, _, b :: r, h, _ => by simp at h
  | _ + 1, 0, b :: r, _, h => by simp at h
  | n + 1, m + 1, b :: r, h1, h2 => by
    have := dropWhile_le (goCls (cls b.toNat)) r
    rw [List.length_cons] at h1 h2
    unfold cutLN
    rw [cutLN_fuel n m r (by omega) (by omega), cutLN_fuel n m (r.dropWhile (goCls (cls b.toNat))) (by omega) (by omega)]
noncomputable def cutL (l : List UInt8) : Option (List (Int × ByteArray)) := cutLN l.length l
theorem cutL_nil : cutL [] = some [] := rfl
theorem cutL_cons (b : UInt8) (r : List UInt8) : cutL (b :: r) = if cls b.toNat = 4 then cutL r
      else if cls b.toNat ≠ 0 ∧ validB (wordKind ⟨(b :: r.takeWhile (goCls (cls b.toNat))).toArray⟩ (cls b.toNat)) ⟨(b :: r.takeWhile (goCls (cls b.toNat))).toArray⟩ = true then
        (cutL (r.dropWhile (goCls (cls b.toNat)))).map ((wordKind ⟨(b :: r.takeWhile (goCls (cls b.toNat))).toArray⟩ (cls b.toNat), ⟨(b :: r.takeWhile (goCls (cls b.toNat))).toArray⟩) :: ·)
      else none := by
  have hd := dropWhile_le (goCls (cls b.toNat)) r
  show cutLN (r.length + 1) (b :: r) = _
  unfold cutL
  conv => lhs; unfold cutLN
  rw [cutLN_fuel r.length (r.dropWhile (goCls (cls b.toNat))).length (r.dropWhile (goCls (cls b.toNat))) hd (Nat.le_refl _)]
theorem cutL_blank {b : UInt8} {r : List UInt8} (h : cls b.toNat = 4) : cutL (b :: r) = cutL r := by rw [cutL_cons, if_pos h]

/-- A byte that goes on with no word of a class. -/
theorem goCls_no {c : Int} {b : UInt8} (h : cls b.toNat ≠ c) : goCls c b = false := by
  unfold goCls
  rw [beq_eq_false_iff_ne.2 h]
  rfl
theorem takeWhile_stop (p : UInt8 → Bool) {b : UInt8} (c : List UInt8) (h : p b = false) : ∀ l : List UInt8, (l ++ b :: c).takeWhile p = l.takeWhile p ∧ (l ++ b :: c).dropWhile p = l.dropWhile p ++ b :: c
  | [] => by simp [h]
  | a :: r => by
    have ih := takeWhile_stop p c h r
    rw [List.cons_append, List.takeWhile_cons, List.dropWhile_cons, List.takeWhile_cons, List.dropWhile_cons]
    cases p a
    · exact ⟨rfl, rfl⟩
    · simp only [if_true]
      exact ⟨by rw [ih.1], ih.2⟩
/-- What is joined if both are there. -/
def both : Option (List (Int × ByteArray)) → Option (List (Int × ByteArray)) → Option (List (Int × ByteArray))
  | some x, some y => some (x ++ y)
  | _, _ => none
theorem both_map (x : Int × ByteArray) (a b : Option (List (Int × ByteArray))) : both (a.map (x :: ·)) b = (both a b).map (x :: ·) := by
  cases a <;> cases b <;> rfl
theorem both_nil (b : Option (List (Int × ByteArray))) : both (some []) b = b := by cases b <;> rfl
theorem both_none (b : Option (List (Int × ByteArray))) : both none b = none := by cases b <;> rfl

theorem cutL_two (n : Nat) : ∀ (a : List UInt8), a.length ≤ n → ∀ (b : UInt8) (c : List UInt8), cls b.toNat = 4 → cutL (a ++ b :: c) = both (cutL a) (cutL c) := by
  induction n with
  | zero =>
    intro a ha b c hb
    have : a = [] := List.eq_nil_of_length_eq_zero (by omega)
    subst this
    rw [List.nil_append, cutL_blank hb, cutL_nil, both_nil]
  | succ n ih =>
    intro a ha b c hb
    cases a with
    | nil => rw [List.nil_append, cutL_blank hb, cutL_nil, both_nil]
    | cons x r =>
      rw [List.length_cons] at ha
      rw [List.cons_append, cutL_cons, cutL_cons x r]
      by_cases h4 : cls x.toNat = 4
      · rw [if_pos h4, if_pos h4, ih r (by omega) b c hb]
      · have hs := takeWhile_stop (goCls (cls x.toNat)) c (goCls_no (c := cls x.toNat) (b := b) (by rw [hb]; exact fun e => h4 e.symm)) r
        have hd := dropWhile_le (goCls (cls x.toNat)) r
        rw [if_neg h4, if_neg h4, hs.1, hs.2, ih _ (by omega) b c hb]
        by_cases hv : cls x.toNat ≠ 0 ∧ validB (wordKind ⟨(x :: r.takeWhile (goCls (cls x.toNat))).toArray⟩ (cls x.toNat)) ⟨(x :: r.takeWhile (goCls (cls x.toNat))).toArray⟩ = true
        · rw [if_pos hv, if_pos hv, both_map]
        · rw [if_neg hv, if_neg hv, both_none]
theorem cutL_strange (n : Nat) : ∀ (a : List UInt8), a.length ≤ n → ∀ (b : UInt8) (c : List UInt8), cls b.toNat = 0 → cutL (a ++ b :: c) = none := by
  have one : ∀ (b : UInt8) (c : List UInt8), cls b.toNat = 0 → cutL (b :: c) = none := by
    intro b c hb
    rw [cutL_cons, if_neg (by omega), if_neg (fun h => h.1 hb)]
  induction n with
  | zero =>
    intro a ha b c hb
    have : a = [] := List.eq_nil_of_length_eq_zero (by omega)
    subst this
    exact one b c hb
  | succ n ih =>
    intro a ha b c hb
    cases a with
    | nil => exact one b c hb
    | cons x r =>
      rw [List.length_cons] at ha
      rw [List.cons_append, cutL_cons]
      by_cases h4 : cls x.toNat = 4
      · rw [if_pos h4, ih r (by omega) b c hb]
      · rw [if_neg h4]
        by_cases h0 : cls x.toNat = 0
        · rw [if_neg (fun h => h.1 h0)]
        · have hs := takeWhile_stop (goCls (cls x.toNat)) c (goCls_no (c := cls x.toNat) (b := b) (by rw [hb]; exact fun e => h0 e.symm)) r
          have hd := dropWhile_le (goCls (cls x.toNat)) r
          rw [hs.1, hs.2, ih _ (by omega) b c hb]
          split <;> rfl

/-- A line feed for a space. -/
def feed (b : UInt8) : UInt8 := if b = 32 then 10 else b
theorem cls_feed (b : UInt8) : cls (feed b).toNat = cls b.toNat := by
  unfold feed
  split
  · rename_i h; subst h; decide
  · rfl
theorem feed_id {b : UInt8} (h : cls b.toNat ≠ 4) : feed b = b := by
  unfold feed
  rw [if_neg]
  rintro rfl
  exact h (by decide)
theorem takeWhile_feed {c : Int} (hc : c ≠ 4) : ∀ l : List UInt8, (l.map feed).takeWhile (goCls c) = l.takeWhile (goCls c) ∧ (l.map feed).dropWhile (goCls c) = (l.dropWhile (goCls c)).map feed
  | [] => ⟨rfl, rfl⟩
  | a :: r => by
    have ih := takeWhile_feed hc r
    have hg : goCls c (feed a) = goCls c a := by unfold goCls; rw [cls_feed]
    rw [List.map_cons, List.takeWhile_cons, List.dropWhile_cons, List.takeWhile_cons, List.dropWhile_cons, hg]
    cases hp : goCls c a
    · exact ⟨rfl, by simp⟩
    · simp only [if_true]
      have h4 : cls a.toNat ≠ 4 := by
        unfold goCls at hp
        rw [Bool.and_eq_true, beq_iff_eq] at hp
        rw [hp.1]; exact hc
      exact ⟨by rw [ih.1, feed_id h4], ih.2⟩
theorem cutL_feed (n : Nat) : ∀ (a : List UInt8), a.length ≤ n → cutL (a.map feed) = cutL a := by
  induction n with
  | zero =>
    intro a ha
    have : a = [] := List.eq_nil_of_length_eq_zero (by omega)
    subst this
    rfl
  | succ n ih =>
    intro a ha
    cases a with
    | nil => rfl
    | cons x r =>
      rw [List.length_cons] at ha
      rw [List.map_cons, cutL_cons, cutL_cons x r, cls_feed]
      by_cases h4 : cls x.toNat = 4
      · rw [if_pos h4, if_pos h4, ih r (by omega)]
      · have hs := takeWhile_feed h4 r
        have hd := dropWhile_le (goCls (cls x.toNat)) r
        rw [if_neg h4, if_neg h4, hs.1, hs.2, ih _ (by omega), feed_id h4]

theorem len_list (s : ByteArray) : s.data.toList.length = s.size := by simp
/-- Scanning upon the list. -/
theorem scan_list (s : ByteArray) (p : UInt8 → Bool) : ∀ n k, s.size - k ≤ n → k ≤ s.size →
    (s.data.toList.drop k).takeWhile p = (s.data.toList.drop k).take (scanP s p k - k) ∧ (s.data.toList.drop k).dropWhile p = s.data.toList.drop (scanP s p k) := by
  intro n
  induction n with
  | zero =>
    intro k h1 h2
    have hk : k = s.size := by omega
    have e : scanP s p k = k := scanP_stop (fun h => absurd h (by omega))
    have hd : s.data.toList.drop k = [] := List.drop_eq_nil_of_le (by rw [len_list]; omega)
    rw [e, hd]
    exact ⟨by simp, by simp⟩
  | succ n ih =>
    intro k h1 h2
    by_cases hk : k < s.size
    · have hk' : k < s.data.toList.length := by rw [len_list]; exact hk
      have hd : s.data.toList.drop k = s[k] :: s.data.toList.drop (k + 1) := by
        rw [List.drop_eq_getElem_cons hk']
        rfl
      have ih' := ih (k + 1) (by omega) hk
      by_cases hp : p s[k] = true
      · have e := scanP_step hk hp
        have hbd := (scanP_bd (p := p) (show k + 1 ≤ s.size from hk)).1
        rw [e, hd, List.takeWhile_cons, List.dropWhile_cons, if_pos hp, if_pos hp, ih'.1, ih'.2]
        refine ⟨?_, rfl⟩
        rw [show scanP s p (k + 1) - k = (scanP s p (k + 1) - (k + 1)) + 1 by omega, List.take_succ_cons]
      · have e : scanP s p k = k := scanP_stop (fun _ => by simpa using hp)
        rw [e, hd, List.takeWhile_cons, List.dropWhile_cons, if_neg hp, if_neg hp]
        exact ⟨by simp, rfl⟩
    · have hk2 : k = s.size := by omega
      have e : scanP s p k = k := scanP_stop (fun h => absurd h (by omega))
      have hd : s.data.toList.drop k = [] := List.drop_eq_nil_of_le (by rw [len_list]; omega)
      rw [e, hd]
      exact ⟨by simp, by simp⟩
theorem extract_list (s : ByteArray) (i j : Nat) : (s.extract i j).data.toList = (s.data.toList.drop i).take (j - i) := by
  rw [ByteArray.data_extract, Array.toList_extract]
theorem bytes_ext {a b : ByteArray} (h : a.data.toList = b.data.toList) : a = b := by
  cases a with | mk x => cases b with | mk y =>
  have : x.toList = y.toList := h
  rw [Array.toList_inj] at this
  rw [this]
theorem cutF_list (s : ByteArray) : ∀ n i, s.size - i ≤ n → cutF s i = cutL (s.data.toList.drop i) := by
  intro n
  induction n with
  | zero =>
    intro i h
    have hd : s.data.toList.drop i = [] := List.drop_eq_nil_of_le (by rw [len_list]; omega)
    rw [cutF_end (by omega), hd, cutL_nil]
  | succ n ih =>
    intro i h
    by_cases hi : i < s.size
    · have hi' : i < s.data.toList.length := by rw [len_list]; exact hi
      have hd : s.data.toList.drop i = s[i] :: s.data.toList.drop (i + 1) := by
        rw [List.drop_eq_getElem_cons hi']
        rfl
      have hb := endC_bd hi
      have hsl := scan_list s (goCls (cls s[i].toNat)) _ (i + 1) (Nat.le_refl _) hi
      have hw : s.extract i (endC s i hi) = ⟨(s[i] :: (s.data.toList.drop (i + 1)).takeWhile (goCls (cls s[i].toNat))).toArray⟩ := by
        apply bytes_ext
        rw [extract_list, hd, hsl.1]
        show _ = s[i] :: _
        rw [show endC s i hi - i = (endC s i hi - (i + 1)) + 1 by omega, List.take_succ_cons]
        rfl
      rw [cutF_step hi, hd, cutL_cons, ih (i + 1) (by omega), ih (endC s i hi) (by omega), hw, hsl.2]
      rfl
    · have hd : s.data.toList.drop i = [] := List.drop_eq_nil_of_le (by rw [len_list]; omega)
      rw [cutF_end hi, hd, cutL_nil]
theorem cut_list (s : ByteArray) : cutF s 0 = cutL s.data.toList := cutF_list s _ 0 (Nat.le_refl _)
end Go.Proofs.YtljoipgpkmdjbaaDoor
