/-
  Plain mathematics of cutting, upon lists: two texts with a blank between, a strange byte, line feeds for blanks.
-/
import Derived.Test.YtljdbjfbcjigaaaGreatDoorMg3
namespace Go.Proofs.YtljdbjfbcjigaaaGreatDoor
open Go.RowKit
set_option maxRecDepth 100000

theorem validB_two (s : ByteArray) : decide (0 ≤ numB s.data.toList) = ((l30F s).2 && decide (0 ≤ (l30F s).1 ∧ (l30F s).1 ≤ 255)) := by
  rw [numB_l30F]
  generalize l30F s = p
  obtain ⟨z, ok⟩ := p
  cases ok
  · simp
  · by_cases h : 0 ≤ z ∧ z ≤ 255
    · simp [h]
    · simp only [true_and]
      rw [if_neg h]
      simp [h]

set_option maxHeartbeats 1000000 in
theorem specWordValid_any (n : Int) (s : ByteArray) (w : World) (hs : s.size ≤ 1048576) :
    Calls Tryz.prog 169 #[.agg #[.int .i64 n, .string s]] w (BoolBelow (validB n s) w) := by
  have hb0 : Below w.heap.size w (w.alloc (.cells #[.int .i64 n, .string s] 138)) := (Below.refl _ _).alloc (Nat.le_refl _) _
  have hs' : s.size ≤ maxLen := by unfold maxLen; omega
  unfold validB
  by_cases h1 : n = 1
  · subst h1
    rw [if_pos rfl]
    have C := Lib.hid (specIsName_any s (w.alloc (.cells #[.int .i64 1, .string s] 138)) hs')
    generalize nameB s = b at *
    go_enter Tryz.func169, Tryz.ntmps169
    go_wp2_with fail
    refine C.out.mono ?_
    rintro e w' ⟨rfl, hb⟩
    have hb2 := hb0.trans (hb.mono hb0.size)
    clear hb hb0
    go_wp2
    go_ret
    exact ⟨rfl, hb2⟩
  by_cases h2 : n = 2
  · subst h2
    rw [if_neg (by omega), if_pos rfl, validB_two]
    have C := Lib.hid (l30Num_any s (w.alloc (.cells #[.int .i64 2, .string s] 138)) hs')
    generalize l30F s = p at *
    obtain ⟨z, ok⟩ := p
    cases ok
    · go_enter Tryz.func169, Tryz.ntmps169
      go_wp2_with fail
      refine C.out.mono ?_
      rintro e w' ⟨rfl, rfl⟩
      go_wp2
      go_ret
      exact ⟨rfl, hb0⟩
    · have CI := fun w => Lib.hid (l1In_any z 0 255 w)
      show Calls _ _ _ _ (BoolBelow (decide (0 ≤ z ∧ z ≤ 255)) w)
      generalize decide (0 ≤ z ∧ z ≤ 255) = d at *
      go_enter Tryz.func169, Tryz.ntmps169
      go_wp2_with fail
      refine C.out.mono ?_
      rintro e w' ⟨rfl, rfl⟩
      go_wp2_with fail
      refine (CI _).out.mono ?_
      rintro e w' ⟨rfl, rfl⟩
      go_wp2
      go_ret
      exact ⟨rfl, hb0⟩
  by_cases h3 : n = 3
  · subst h3
    rw [if_neg (by omega), if_neg (by omega), if_pos rfl]
    by_cases hz : s.size = 1
    · have e1 : ((s.size : Int) == 1) = true := by rw [beq_iff_eq]; omega
      have hpos : 0 < s.size := by omega
      have hb : signB s = (cls (s[0]'hpos).toNat == 3) := by unfold signB; rw [dif_pos hz]
      rw [hb]
      clear hb hz
      have C := fun w => Lib.hid (l1Class_any s[0] w)
      generalize cls s[0].toNat = z at *
      go_enter Tryz.func169, Tryz.ntmps169
      go_wp2_with fail
      refine (C _).out.mono ?_
      rintro e w' ⟨rfl, rfl⟩
      go_wp2
      go_ret
      exact ⟨rfl, hb0⟩
    · have e1 : ((s.size : Int) == 1) = false := by rw [beq_eq_false_iff_ne]; omega
      have hb : signB s = false := by unfold signB; rw [dif_neg hz]
      rw [hb]
      clear hb hz
      go_enter Tryz.func169, Tryz.ntmps169
      go_wp2
      go_ret
      exact ⟨rfl, hb0⟩
  by_cases h4 : n = 4
  · subst h4
    rw [if_neg (by omega), if_neg (by omega), if_neg (by omega), if_pos rfl]
    have C := Lib.hid (l1Key_any s (w.alloc (.cells #[.int .i64 4, .string s] 138)))
    generalize isKeyB s = b at *
    go_enter Tryz.func169, Tryz.ntmps169
    go_wp2_with fail
    refine C.out.mono ?_
    rintro e w' ⟨rfl, hb⟩
    have hb2 := hb0.trans (hb.mono hb0.size)
    clear hb hb0
    go_wp2
    go_ret
    exact ⟨rfl, hb2⟩
  · rw [if_neg h1, if_neg h2, if_neg h3, if_neg h4]
    have b1 : (n == 1) = false := by rw [beq_eq_false_iff_ne]; exact h1
    have b2 : (n == 2) = false := by rw [beq_eq_false_iff_ne]; exact h2
    have b3 : (n == 3) = false := by rw [beq_eq_false_iff_ne]; exact h3
    have b4 : (n == 4) = false := by rw [beq_eq_false_iff_ne]; exact h4
    clear h1 h2 h3 h4
    go_enter Tryz.func169, Tryz.ntmps169
    go_wp2
    go_ret
    exact ⟨rfl, hb0⟩

/-- The number that a word tells. -/
def numOfB (n : Int) (s : ByteArray) : Int := if n = 2 then numB s.data.toList else -1

set_option maxHeartbeats 1000000 in
theorem implNumberOf_any (n : Int) (s : ByteArray) (w : World) (hs : s.size ≤ 1048576) (N : NTabs w) :
    Calls Tryz.prog 164 #[.agg #[.int .i64 n, .string s]] w (IntBelow (numOfB n s) w) := by
  have hb0 : Below w.heap.size w (w.alloc (.cells #[.int .i64 n, .string s] 138)) := (Below.refl _ _).alloc (Nat.le_refl _) _
  have N1 := N.below hb0
  unfold numOfB
  by_cases h2 : n = 2
  · subst h2
    rw [if_pos rfl]
    have C := Lib.hid (numberIn_any s _ hs N1)
    generalize numB s.data.toList = z at *
    go_enter Tryz.func164, Tryz.ntmps164
    go_wp2_with fail
    refine C.out.mono ?_
    rintro e w' ⟨rfl, hb⟩
    have hb2 := hb0.trans (hb.mono hb0.size)
    clear hb hb0
    go_wp2
    go_ret
    exact ⟨rfl, hb2⟩
  · rw [if_neg h2]
    have b2 : (n == 2) = false := by rw [beq_eq_false_iff_ne]; exact h2
    have b3 : (n != 2) = true := by rw [bne, b2]; rfl
    clear h2
    go_enter Tryz.func164, Tryz.ntmps164
    go_wp2
    go_ret
    exact ⟨rfl, hb0⟩

theorem numOf_yes {s : ByteArray} (h : 0 ≤ numB s.data.toList) : numB s.data.toList = (l30F s).1 := by
  rw [numB_l30F] at h ⊢
  split
  · rfl
  · rename_i hn; rw [if_neg hn] at h; omega


end Go.Proofs.YtljdbjfbcjigaaaGreatDoor

namespace Go.Proofs.YtljdbjfbcjigaaaGreatDoor
open Go.RowKit

/-- From k on, as far as a test says yes. -/
def scanN (s : ByteArray) (p : UInt8 → Bool) : Nat → Nat → Nat
  | 0, k => k
  | n + 1, k => if h : k < s.size then (if p s[k] = true then scanN s p n (k + 1) else k) else k
def scanP (s : ByteArray) (p : UInt8 → Bool) (k : Nat) : Nat := scanN s p (s.size - k) k
theorem scanP_step {s : ByteArray} {p : UInt8 → Bool} {k : Nat} (h : k < s.size) (hp : p s[k] = true) : scanP s p k = scanP s p (k + 1) := by
  unfold scanP
  obtain ⟨n, hn⟩ : ∃ n, s.size - k = n + 1 := ⟨s.size - k - 1, by omega⟩
  have hn' : s.size - (k + 1) = n := by omega
  rw [hn, hn']
  show (if h : k < s.size then (if p s[k] = true then scanN s p n (k + 1) else k) else k) = _
  rw [dif_pos h, if_pos hp]
theorem scanP_stop {s : ByteArray} {p : UInt8 → Bool} {k : Nat} (h : ∀ h : k < s.size, p s[k] = false) : scanP s p k = k := by
  unfold scanP
  cases hn : s.size - k with
  | zero => rfl
  | succ n =>
    show (if h : k < s.size then (if p s[k] = true then scanN s p n (k + 1) else k) else k) = _
    have hk : k < s.size := by omega
    rw [dif_pos hk, if_neg (by rw [h hk]; simp)]
theorem scanN_bd (s : ByteArray) (p : UInt8 → Bool) : ∀ n k, k ≤ s.size → k ≤ scanN s p n k ∧ scanN s p n k ≤ s.size ∧ ∀ j, (h : j < s.size) → k ≤ j → j < scanN s p n k → p s[j] = true
  | 0, k, hk => ⟨Nat.le_refl _, hk, fun j _ h1 h2 => by have : scanN s p 0 k = k := rfl; omega⟩
  | n + 1, k, hk => by
    by_cases h : k < s.size
    · by_cases hp : p s[k] = true
      · have e : scanN s p (n + 1) k = scanN s p n (k + 1) := by
          show (if h : k < s.size then (if p s[k] = true then scanN s p n (k + 1) else k) else k) = _
          rw [dif_pos h, if_pos hp]
        have ih := scanN_bd s p n (k + 1) h
        rw [e]
        refine ⟨by omega, ih.2.1, fun j hj h1 h2 => ?_⟩
        by_cases ej : k = j
        · subst ej; exact hp
        · exact ih.2.2 j hj (by omega) h2
      · have e : scanN s p (n + 1) k = k := by
          show (if h : k < s.size then (if p s[k] = true then scanN s p n (k + 1) else k) else k) = _
          rw [dif_pos h, if_neg hp]
        rw [e]
        exact ⟨Nat.le_refl _, hk, fun j _ h1 h2 => by omega⟩
    · have e : scanN s p (n + 1) k = k := by
        show (if h : k < s.size then (if p s[k] = true then scanN s p n (k + 1) else k) else k) = _
        rw [dif_neg h]
      rw [e]
      exact ⟨Nat.le_refl _, hk, fun j _ h1 h2 => by omega⟩
theorem scanP_bd {s : ByteArray} {p : UInt8 → Bool} {k : Nat} (h : k ≤ s.size) : k ≤ scanP s p k ∧ scanP s p k ≤ s.size ∧ ∀ j, (h : j < s.size) → k ≤ j → j < scanP s p k → p s[j] = true := scanN_bd s p _ k h
theorem scanN_ext {s : ByteArray} {p q : UInt8 → Bool} (h : ∀ b, p b = q b) : ∀ n k, scanN s p n k = scanN s q n k := by
  have : p = q := funext h
  subst this
  intros; rfl
theorem scanP_ext {s : ByteArray} {p q : UInt8 → Bool} (h : ∀ b, p b = q b) (k : Nat) : scanP s p k = scanP s q k := scanN_ext h _ k

/-- Does a byte go on with a word of a class (the model)? -/
def goCls (c : Int) (b : UInt8) : Bool := cls b.toNat == c && decide (c < 3)
/-- Does a byte go on with a run of a kind (the program)? -/
def goKind (z : Int) (b : UInt8) : Bool := kindN b.toNat == z && (z == 1 || z == 2 || z == 5)
def endC (s : ByteArray) (i : Nat) (h : i < s.size) : Nat := scanP s (goCls (cls s[i].toNat)) (i + 1)
def endK (s : ByteArray) (i : Nat) (h : i < s.size) : Nat := scanP s (goKind (kindN s[i].toNat)) (i + 1)
theorem endC_bd {s : ByteArray} {i : Nat} (h : i < s.size) : i < endC s i h ∧ endC s i h ≤ s.size := by
  have := scanP_bd (p := goCls (cls s[i].toNat)) (show i + 1 ≤ s.size from h); unfold endC; omega
theorem endK_bd {s : ByteArray} {i : Nat} (h : i < s.size) : i < endK s i h ∧ endK s i h ≤ s.size := by
  have := scanP_bd (p := goKind (kindN s[i].toNat)) (show i + 1 ≤ s.size from h); unfold endK; omega
theorem kind_of (b : UInt8) : kindN b.toNat = if cls b.toNat = 4 then 5 else cls b.toNat := kindN_cls b.toNat (by have := b.toNat_lt; omega)
theorem cls_range (n : Nat) : 0 ≤ cls n ∧ cls n ≤ 4 := by unfold cls; repeat' split <;> omega
theorem go_same {c : Int} (hc : c = 1 ∨ c = 2 ∨ c = 3) (b : UInt8) : goCls c b = goKind c b := by
  unfold goCls goKind
  rw [kind_of]
  have hr := cls_range b.toNat
  by_cases h4 : cls b.toNat = 4
  · rw [if_pos h4, h4]
    rcases hc with rfl | rfl | rfl <;> rfl
  · rw [if_neg h4]
    rcases hc with rfl | rfl | rfl
    · cases (cls b.toNat == 1) <;> rfl
    · cases (cls b.toNat == 2) <;> rfl
    · cases (cls b.toNat == 3) <;> rfl

/-- The kind of the word of a text that stands together. -/
def wordKind (t : ByteArray) (z : Int) : Int := if isKeyB t = true then 4 else z

/-- The words of a text from i on, with fuel; none if there is a wrong one. -/
noncomputable def cutN (s : ByteArray) : Nat → Nat → Option (List (Int × ByteArray))
  | 0, _ => some []
  | n + 1, i => if h : i < s.size then
      if cls s[i].toNat = 4 then cutN s n (i + 1)
      else if cls s[i].toNat ≠ 0 ∧ validB (wordKind (s.extract i (endC s i h)) (cls s[i].toNat)) (s.extract i (endC s i h)) = true then
        (cutN s n (endC s i h)).map ((wordKind (s.extract i (endC s i h)) (cls s[i].toNat), s.extract i (endC s i h)) :: ·)
      else none
    else some []
theorem cutN_fuel (s : ByteArray) : ∀ n m i, s.size - i ≤ n → s.size - i ≤ m → cutN s n i = cutN s m i
  | 0, 0, _, _, _ => rfl
  | 0, m + 1, i, h, _ => by
    have hi : ¬ i < s.size := by omega
    show some [] = cutN s (m + 1) i
    unfold cutN
    rw [dif_neg hi]
  | n + 1, 0, i, _, h => by
    have hi : ¬ i < s.size := by omega
    show cutN s (n + 1) i = some []
    unfold cutN
    rw [dif_neg hi]
  | n + 1, m + 1, i, h1, h2 => by
    unfold cutN
    by_cases hi : i < s.size
    · have hb := endC_bd hi
      rw [dif_pos hi, dif_pos hi, cutN_fuel s n m (i + 1) (by omega) (by omega), cutN_fuel s n m (endC s i hi) (by omega) (by omega)]
    · rw [dif_neg hi, dif_neg hi]
noncomputable def cutF (s : ByteArray) (i : Nat) : Option (List (Int × ByteArray)) := cutN s (s.size - i) i
theorem cutF_end {s : ByteArray} {i : Nat} (h : ¬ i < s.size) : cutF s i = some [] := by
  unfold cutF
  rw [show s.size - i = 0 by omega]
  rfl
theorem cutF_step {s : ByteArray} {i : Nat} (h : i < s.size) : cutF s i = if cls s[i].toNat = 4 then cutF s (i + 1)
      else if cls s[i].toNat ≠ 0 ∧ validB (wordKind (s.extract i (endC s i h)) (cls s[i].toNat)) (s.extract i (endC s i h)) = true then
        (cutF s (endC s i h)).map ((wordKind (s.extract i (endC s i h)) (cls s[i].toNat), s.extract i (endC s i h)) :: ·)
      else none := by
  have hb := endC_bd h
  unfold cutF
  obtain ⟨n, hn⟩ : ∃ n, s.size - i = n + 1 := ⟨s.size - i - 1, by omega⟩
  rw [hn, cutN_fuel s (s.size - (i + 1)) n (i + 1) (by omega) (by omega), cutN_fuel s (s.size - endC s i h) n (endC s i h) (by omega) (by omega)]
  conv => lhs; unfold cutN
  rw [dif_pos h]
theorem cutF_blank {s : ByteArray} {i : Nat} (h : i < s.size) (hc : cls s[i].toNat = 4) : cutF s i = cutF s (i + 1) := by rw [cutF_step h, if_pos hc]
theorem cutF_word {s : ByteArray} {i : Nat} (h : i < s.size) (hc : cls s[i].toNat ≠ 4) (h0 : cls s[i].toNat ≠ 0) (hv : validB (wordKind (s.extract i (endC s i h)) (cls s[i].toNat)) (s.extract i (endC s i h)) = true) :
    cutF s i = (cutF s (endC s i h)).map ((wordKind (s.extract i (endC s i h)) (cls s[i].toNat), s.extract i (endC s i h)) :: ·) := by rw [cutF_step h, if_neg hc, if_pos ⟨h0, hv⟩]
theorem cutF_bad {s : ByteArray} {i : Nat} (h : i < s.size) (hc : cls s[i].toNat ≠ 4) (h0 : cls s[i].toNat = 0 ∨ validB (wordKind (s.extract i (endC s i h)) (cls s[i].toNat)) (s.extract i (endC s i h)) = false) : cutF s i = none := by
  rw [cutF_step h, if_neg hc, if_neg]
  rintro ⟨h1, h2⟩
  rcases h0 with h0 | h0
  · exact h1 h0
  · rw [h0] at h2; cases h2

/-- The runs of a text from i on, with fuel. -/
def runsN (s : ByteArray) : Nat → Nat → List ByteArray
  | 0, _ => []
  | n + 1, i => if h : i < s.size then s.extract i (endK s i h) :: runsN s n (endK s i h) else []
theorem runsN_fuel (s : ByteArray) : ∀ n m i, s.size - i ≤ n → s.size - i ≤ m → runsN s n i = runsN s m i
  | 0, 0, _, _, _ => rfl
  | 0, m + 1, i, h, _ => by
    have hi : ¬ i < s.size := by omega
    show [] = runsN s (m + 1) i
    unfold runsN
    rw [dif_neg hi]
  | n + 1, 0, i, _, h => by
    have hi : ¬ i < s.size := by omega
    show runsN s (n + 1) i = []
    unfold runsN
    rw [dif_neg hi]
  | n + 1, m + 1, i, h1, h2 => by
    unfold runsN
    by_cases hi : i < s.size
    · have hb := endK_bd hi
      rw [dif_pos hi, dif_pos hi, runsN_fuel s n m (endK s i hi) (by omega) (by omega)]
    · rw [dif_neg hi, dif_neg hi]
def runsF (s : ByteArray) (i : Nat) : List ByteArray := runsN s (s.size - i) i
theorem runsF_end {s : ByteArray} {i : Nat} (h : ¬ i < s.size) : runsF s i = [] := by
  unfold runsF
  rw [show s.size - i = 0 by omega]
  rfl
theorem runsF_step {s : ByteArray} {i : Nat} (h : i < s.size) : runsF s i = s.extract i (endK s i h) :: runsF s (endK s i h) := by
  have hb := endK_bd h
  unfold runsF
  obtain ⟨n, hn⟩ : ∃ n, s.size - i = n + 1 := ⟨s.size - i - 1, by omega⟩
  rw [hn, runsN_fuel s (s.size - endK s i h) n (endK s i h) (by omega) (by omega)]
  conv => lhs; unfold runsN
  rw [dif_pos h]

/-- The kind that the program gives a run. -/
def runKind (t : ByteArray) : Int := if isKeyB t = true then 4 else if h : 0 < t.size then kindN t[0].toNat else 0
/-- The words of runs. -/
noncomputable def procR : List ByteArray → Option (List (Int × ByteArray))
  | [] => some []
  | t :: r => if runKind t = 5 then procR r else if validB (runKind t) t = true then (procR r).map ((runKind t, t) :: ·) else none

theorem extract_get {s : ByteArray} {i k : Nat} (h : i < k) (hk : k ≤ s.size) : ∃ h0 : 0 < (s.extract i k).size, (s.extract i k)[0] = s[i]'(by omega) := by
  have hz : (s.extract i k).size = k - i := by rw [ByteArray.size_extract]; omega
  refine ⟨by omega, ?_⟩
  rw [ByteArray.getElem_extract]
  simp
theorem key_letter {t : ByteArray} (h : isKeyB t = true) : ∃ h0 : 0 < t.size, cls t[0].toNat = 1 := by
  obtain ⟨k, hk, rfl⟩ := (isKeyB_iff t).1 h
  have all : ∀ k, k < 9 → ∃ h0 : 0 < (keyB k).size, cls (keyB k)[0].toNat = 1 := by decide +kernel
  exact all k hk

theorem runs_cut (s : ByteArray) : ∀ n i, s.size - i ≤ n → procR (runsF s i) = cutF s i := by
  intro n
  induction n with
  | zero =>
    intro i h
    rw [runsF_end (by omega), cutF_end (by omega)]
    rfl
  | succ n ih =>
    intro i h
    by_cases hi : i < s.size
    · have hb := endK_bd hi
      obtain ⟨h0, hg⟩ := extract_get hb.1 hb.2
      have hk : runKind (s.extract i (endK s i hi)) = wordKind (s.extract i (endK s i hi)) (kindN s[i].toNat) := by
        unfold runKind wordKind
        rw [dif_pos h0, hg]
      have hnk : cls s[i].toNat ≠ 1 → isKeyB (s.extract i (endK s i hi)) = false := by
        intro hne
        rw [Bool.eq_false_iff]
        intro hkey
        obtain ⟨_, hc⟩ := key_letter hkey
        rw [hg] at hc
        exact hne hc
      have hr := cls_range s[i].toNat
      rw [runsF_step hi]
      show (if runKind _ = 5 then _ else _) = _
      rw [hk, kind_of, ih _ (by omega)]
      by_cases h4 : cls s[i].toNat = 4
      · rw [if_pos h4]
        have hkey := hnk (by omega)
        have e : wordKind (s.extract i (endK s i hi)) 5 = 5 := by unfold wordKind; rw [hkey]; rfl
        rw [e, if_pos rfl]
        have skip : ∀ m j, i + 1 ≤ j → endK s i hi - j ≤ m → j ≤ endK s i hi → cutF s j = cutF s (endK s i hi) := by
          intro m
          induction m with
          | zero => intro j _ h1 h2; rw [show j = endK s i hi by omega]
          | succ m ihm =>
            intro j hj h1 h2
            by_cases e : j = endK s i hi
            · rw [e]
            · have hjs : j < s.size := by omega
              have hp := (scanP_bd (p := goKind (kindN s[i].toNat)) (show i + 1 ≤ s.size from hi)).2.2 j hjs hj (by show j < endK s i hi; omega)
              have hj4 : cls s[j].toNat = 4 := by
                unfold goKind at hp
                rw [Bool.and_eq_true, beq_iff_eq, kind_of s[i], if_pos h4, kind_of] at hp
                have h5 := hp.1
                have hrj := cls_range s[j].toNat
                split at h5
                · assumption
                · omega
              rw [cutF_blank hjs hj4]
              exact ihm (j + 1) (by omega) (by omega) (by omega)
        rw [cutF_blank hi h4]
        exact (skip _ (i + 1) (Nat.le_refl _) (Nat.le_refl _) (by omega)).symm
      · rw [if_neg h4]
        by_cases hz : cls s[i].toNat = 0
        · have hkey := hnk (by omega)
          have e : wordKind (s.extract i (endK s i hi)) (cls s[i].toNat) = 0 := by unfold wordKind; rw [hkey, hz]; rfl
          have hv : validB 0 (s.extract i (endK s i hi)) = false := by
            unfold validB; rw [if_neg (by omega), if_neg (by omega), if_neg (by omega), if_neg (by omega)]
          rw [e, if_neg (by omega), hv, if_neg (by simp), cutF_bad hi h4 (.inl hz)]
        · have hee : endK s i hi = endC s i hi := by
            unfold endK endC
            rw [kind_of, if_neg h4]
            exact (scanP_ext (go_same (by omega)) _).symm
          have hne : wordKind (s.extract i (endK s i hi)) (cls s[i].toNat) ≠ 5 := by
            unfold wordKind; split <;> omega
          rw [if_neg hne]
          rw [hee]
          by_cases hv : validB (wordKind (s.extract i (endC s i hi)) (cls s[i].toNat)) (s.extract i (endC s i hi)) = true
          · rw [if_pos hv, cutF_word hi h4 hz hv]
          · rw [if_neg hv, cutF_bad hi h4 (.inr (by simpa using hv))]
    · rw [runsF_end hi, cutF_end hi]
      rfl

/-- What CutWords returns. -/
noncomputable def cutRes (s : ByteArray) : List (Int × ByteArray) × Bool :=
  if 3000 < s.size then ([], false) else match cutF s 0 with
    | some ws => if ws.length ≤ 600 then (ws, true) else ([], false)
    | none => ([], false)
theorem cutRes_long {s : ByteArray} (h : 3000 < s.size) : cutRes s = ([], false) := by unfold cutRes; rw [if_pos h]
theorem cutRes_none {s : ByteArray} (h : cutF s 0 = none) : cutRes s = ([], false) := by unfold cutRes; rw [h]; split <;> rfl
theorem cutRes_yes {s : ByteArray} {ws : List (Int × ByteArray)} (hs : s.size ≤ 3000) (h : cutF s 0 = some ws) (hn : ws.length ≤ 600) : cutRes s = (ws, true) := by
  unfold cutRes; rw [if_neg (by omega), h]; show (if ws.length ≤ 600 then (ws, true) else ([], false)) = _; rw [if_pos hn]
theorem cutRes_many {s : ByteArray} (h : ∀ ws, cutF s 0 = some ws → 600 < ws.length) : cutRes s = ([], false) := by
  unfold cutRes
  split
  · rfl
  · cases hc : cutF s 0 with
    | none => rfl
    | some ws => show (if ws.length ≤ 600 then (ws, true) else ([], false)) = _; rw [if_neg (by have := h ws hc; omega)]
end Go.Proofs.YtljdbjfbcjigaaaGreatDoor

namespace Go.Proofs.YtljdbjfbcjigaaaGreatDoor
open Go.RowKit

/-- The words of bytes; none if there is a wrong one. -/
noncomputable def cutLN : Nat → List UInt8 → Option (List (Int × ByteArray))
  | 0, _ => some []
  | _ + 1, [] => some []
  | n + 1, b :: r =>
      if cls b.toNat = 4 then cutLN n r
      else if cls b.toNat ≠ 0 ∧ validB (wordKind ⟨(b :: r.takeWhile (goCls (cls b.toNat))).toArray⟩ (cls b.toNat)) ⟨(b :: r.takeWhile (goCls (cls b.toNat))).toArray⟩ = true then
        (cutLN n (r.dropWhile (goCls (cls b.toNat)))).map ((wordKind ⟨(b :: r.takeWhile (goCls (cls b.toNat))).toArray⟩ (cls b.toNat), ⟨(b :: r.takeWhile (goCls (cls b.toNat))).toArray⟩) :: ·)
      else none
theorem dropWhile_le (p : UInt8 → Bool) : ∀ l : List UInt8, (l.dropWhile p).length ≤ l.length
  | [] => Nat.le_refl _
  | b :: r => by
    rw [List.dropWhile_cons]
    split
    · have := dropWhile_le p r; rw [List.length_cons]; omega
    · exact Nat.le_refl _
theorem cutLN_fuel : ∀ (n m : Nat) (l : List UInt8), l.length ≤ n → l.length ≤ m → cutLN n l = cutLN m l
  | 0, 0, _, _, _ => rfl
  | 0, m + 1, [], _, _ => rfl
  | n + 1, 0, [], _, _ => rfl
  | n + 1, m + 1, [], _, _ => rfl
  | 0, _, b :: r, h, _ => by simp at h
  | _ + 1, 0, b :: r, _, h => by simp at h
  | n + 1, m + 1, b :: r, h1, h2 => by
    have := dropWhile_le (goCls (cls b.toNat)) r
    rw [List.length_cons] at h1 h2
    unfold cutLN
    rw [cutLN_fuel n m r (by omega) (by omega), cutLN_fuel n m (r.dropWhile (goCls (cls b.toNat))) (by omega) (by omega)]
noncomputable def cutL (l : List UInt8) : Option (List (Int × ByteArray)) := cutLN l.length l
theorem cutL_nil : cutL [] = some [] := rfl
theorem cutL_cons (b : UInt8) (r : List UInt8) : cutL (b :: r) = if cls b.toNat = 4 then cutL r
      else if cls b.toNat ≠ 0 ∧ validB (wordKind ⟨(b :: r.takeWhile (goCls (cls b.toNat))).toArray⟩ (cls b.toNat)) ⟨(b :: r.takeWhile (goCls (cls b.toNat))).toArray⟩ = true then
        (cutL (r.dropWhile (goCls (cls b.toNat)))).map ((wordKind ⟨(b :: r.takeWhile (goCls (cls b.toNat))).toArray⟩ (cls b.toNat), ⟨(b :: r.takeWhile (goCls (cls b.toNat))).toArray⟩) :: ·)
      else none := by
  have hd := dropWhile_le (goCls (cls b.toNat)) r
  show cutLN (r.length + 1) (b :: r) = _
  unfold cutL
  conv => lhs; unfold cutLN
  rw [cutLN_fuel r.length (r.dropWhile (goCls (cls b.toNat))).length (r.dropWhile (goCls (cls b.toNat))) hd (Nat.le_refl _)]
theorem cutL_blank {b : UInt8} {r : List UInt8} (h : cls b.toNat = 4) : cutL (b :: r) = cutL r := by rw [cutL_cons, if_pos h]

/-- A byte that goes on with no word of a class. -/
theorem goCls_no {c : Int} {b : UInt8} (h : cls b.toNat ≠ c) : goCls c b = false := by
  unfold goCls
  rw [beq_eq_false_iff_ne.2 h]
  rfl
theorem takeWhile_stop (p : UInt8 → Bool) {b : UInt8} (c : List UInt8) (h : p b = false) : ∀ l : List UInt8, (l ++ b :: c).takeWhile p = l.takeWhile p ∧ (l ++ b :: c).dropWhile p = l.dropWhile p ++ b :: c
  | [] => by simp [h]
  | a :: r => by
    have ih := takeWhile_stop p c h r
    rw [List.cons_append, List.takeWhile_cons, List.dropWhile_cons, List.takeWhile_cons, List.dropWhile_cons]
    cases p a
    · exact ⟨rfl, rfl⟩
    · simp only [if_true]
      exact ⟨by rw [ih.1], ih.2⟩
/-- What is joined if both are there. -/
def both : Option (List (Int × ByteArray)) → Option (List (Int × ByteArray)) → Option (List (Int × ByteArray))
  | some x, some y => some (x ++ y)
  | _, _ => none
theorem both_map (x : Int × ByteArray) (a b : Option (List (Int × ByteArray))) : both (a.map (x :: ·)) b = (both a b).map (x :: ·) := by
  cases a <;> cases b <;> rfl
theorem both_nil (b : Option (List (Int × ByteArray))) : both (some []) b = b := by cases b <;> rfl
theorem both_none (b : Option (List (Int × ByteArray))) : both none b = none := by cases b <;> rfl

theorem cutL_two (n : Nat) : ∀ (a : List UInt8), a.length ≤ n → ∀ (b : UInt8) (c : List UInt8), cls b.toNat = 4 → cutL (a ++ b :: c) = both (cutL a) (cutL c) := by
  induction n with
  | zero =>
    intro a ha b c hb
    have : a = [] := List.eq_nil_of_length_eq_zero (by omega)
    subst this
    rw [List.nil_append, cutL_blank hb, cutL_nil, both_nil]
  | succ n ih =>
    intro a ha b c hb
    cases a with
    | nil => rw [List.nil_append, cutL_blank hb, cutL_nil, both_nil]
    | cons x r =>
      rw [List.length_cons] at ha
      rw [List.cons_append, cutL_cons, cutL_cons x r]
      by_cases h4 : cls x.toNat = 4
      · rw [if_pos h4, if_pos h4, ih r (by omega) b c hb]
      · have hs := takeWhile_stop (goCls (cls x.toNat)) c (goCls_no (c := cls x.toNat) (b := b) (by rw [hb]; exact fun e => h4 e.symm)) r
        have hd := dropWhile_le (goCls (cls x.toNat)) r
        rw [if_neg h4, if_neg h4, hs.1, hs.2, ih _ (by omega) b c hb]
        by_cases hv : cls x.toNat ≠ 0 ∧ validB (wordKind ⟨(x :: r.takeWhile (goCls (cls x.toNat))).toArray⟩ (cls x.toNat)) ⟨(x :: r.takeWhile (goCls (cls x.toNat))).toArray⟩ = true
        · rw [if_pos hv, if_pos hv, both_map]
        · rw [if_neg hv, if_neg hv, both_none]
theorem cutL_strange (n : Nat) : ∀ (a : List UInt8), a.length ≤ n → ∀ (b : UInt8) (c : List UInt8), cls b.toNat = 0 → cutL (a ++ b :: c) = none := by
  have one : ∀ (b : UInt8) (c : List UInt8), cls b.toNat = 0 → cutL (b :: c) = none := by
    intro b c hb
    rw [cutL_cons, if_neg (by omega), if_neg (fun h => h.1 hb)]
  induction n with
  | zero =>
    intro a ha b c hb
    have : a = [] := List.eq_nil_of_length_eq_zero (by omega)
    subst this
    exact one b c hb
  | succ n ih =>
    intro a ha b c hb
    cases a with
    | nil => exact one b c hb
    | cons x r =>
      rw [List.length_cons] at ha
      rw [List.cons_append, cutL_cons]
      by_cases h4 : cls x.toNat = 4
      · rw [if_pos h4, ih r (by omega) b c hb]
      · rw [if_neg h4]
        by_cases h0 : cls x.toNat = 0
        · rw [if_neg (fun h => h.1 h0)]
        · have hs := takeWhile_stop (goCls (cls x.toNat)) c (goCls_no (c := cls x.toNat) (b := b) (by rw [hb]; exact fun e => h0 e.symm)) r
          have hd := dropWhile_le (goCls (cls x.toNat)) r
          rw [hs.1, hs.2, ih _ (by omega) b c hb]
          split <;> rfl

/-- A line feed for a space. -/
def feed (b : UInt8) : UInt8 := if b = 32 then 10 else b
theorem cls_feed (b : UInt8) : cls (feed b).toNat = cls b.toNat := by
  unfold feed
  split
  · rename_i h; subst h; decide
  · rfl
theorem feed_id {b : UInt8} (h : cls b.toNat ≠ 4) : feed b = b := by
  unfold feed
  rw [if_neg]
  rintro rfl
  exact h (by decide)
theorem takeWhile_feed {c : Int} (hc : c ≠ 4) : ∀ l : List UInt8, (l.map feed).takeWhile (goCls c) = l.takeWhile (goCls c) ∧ (l.map feed).dropWhile (goCls c) = (l.dropWhile (goCls c)).map feed
  | [] => ⟨rfl, rfl⟩
  | a :: r => by
    have ih := takeWhile_feed hc r
    have hg : goCls c (feed a) = goCls c a := by unfold goCls; rw [cls_feed]
    rw [List.map_cons, List.takeWhile_cons, List.dropWhile_cons, List.takeWhile_cons, List.dropWhile_cons, hg]
    cases hp : goCls c a
    · exact ⟨rfl, by simp⟩
    · simp only [if_true]
      have h4 : cls a.toNat ≠ 4 := by
        unfold goCls at hp
        rw [Bool.and_eq_true, beq_iff_eq] at hp
        rw [hp.1]; exact hc
      exact ⟨by rw [ih.1, feed_id h4], ih.2⟩
theorem cutL_feed (n : Nat) : ∀ (a : List UInt8), a.length ≤ n → cutL (a.map feed) = cutL a := by
  induction n with
  | zero =>
    intro a ha
    have : a = [] := List.eq_nil_of_length_eq_zero (by omega)
    subst this
    rfl
  | succ n ih =>
    intro a ha
    cases a with
    | nil => rfl
    | cons x r =>
      rw [List.length_cons] at ha
      rw [List.map_cons, cutL_cons, cutL_cons x r, cls_feed]
      by_cases h4 : cls x.toNat = 4
      · rw [if_pos h4, if_pos h4, ih r (by omega)]
      · have hs := takeWhile_feed h4 r
        have hd := dropWhile_le (goCls (cls x.toNat)) r
        rw [if_neg h4, if_neg h4, hs.1, hs.2, ih _ (by omega), feed_id h4]

theorem len_list (s : ByteArray) : s.data.toList.length = s.size := by simp
/-- Scanning upon the list. -/
theorem scan_list (s : ByteArray) (p : UInt8 → Bool) : ∀ n k, s.size - k ≤ n → k ≤ s.size →
    (s.data.toList.drop k).takeWhile p = (s.data.toList.drop k).take (scanP s p k - k) ∧ (s.data.toList.drop k).dropWhile p = s.data.toList.drop (scanP s p k) := by
  intro n
  induction n with
  | zero =>
    intro k h1 h2
    have hk : k = s.size := by omega
    have e : scanP s p k = k := scanP_stop (fun h => absurd h (by omega))
    have hd : s.data.toList.drop k = [] := List.drop_eq_nil_of_le (by rw [len_list]; omega)
    rw [e, hd]
    exact ⟨by simp, by simp⟩
  | succ n ih =>
    intro k h1 h2
    by_cases hk : k < s.size
    · have hk' : k < s.data.toList.length := by rw [len_list]; exact hk
      have hd : s.data.toList.drop k = s[k] :: s.data.toList.drop (k + 1) := by
        rw [List.drop_eq_getElem_cons hk']
        rfl
      have ih' := ih (k + 1) (by omega) hk
      by_cases hp : p s[k] = true
      · have e := scanP_step hk hp
        have hbd := (scanP_bd (p := p) (show k + 1 ≤ s.size from hk)).1
        rw [e, hd, List.takeWhile_cons, List.dropWhile_cons, if_pos hp, if_pos hp, ih'.1, ih'.2]
        refine ⟨?_, rfl⟩
        rw [show scanP s p (k + 1) - k = (scanP s p (k + 1) - (k + 1)) + 1 by omega, List.take_succ_cons]
      · have e : scanP s p k = k := scanP_stop (fun _ => by simpa using hp)
        rw [e, hd, List.takeWhile_cons, List.dropWhile_cons, if_neg hp, if_neg hp]
        exact ⟨by simp, rfl⟩
    · have hk2 : k = s.size := by omega
      have e : scanP s p k = k := scanP_stop (fun h => absurd h (by omega))
      have hd : s.data.toList.drop k = [] := List.drop_eq_nil_of_le (by rw [len_list]; omega)
      rw [e, hd]
      exact ⟨by simp, by simp⟩
theorem extract_list (s : ByteArray) (i j : Nat) : (s.extract i j).data.toList = (s.data.toList.drop i).take (j - i) := by
  rw [ByteArray.data_extract, Array.toList_extract]
theorem bytes_ext {a b : ByteArray} (h : a.data.toList = b.data.toList) : a = b := by
  cases a with | mk x => cases b with | mk y =>
  have : x.toList = y.toList := h
  rw [Array.toList_inj] at this
  rw [this]
theorem cutF_list (s : ByteArray) : ∀ n i, s.size - i ≤ n → cutF s i = cutL (s.data.toList.drop i) := by
  intro n
  induction n with
  | zero =>
    intro i h
    have hd : s.data.toList.drop i = [] := List.drop_eq_nil_of_le (by rw [len_list]; omega)
    rw [cutF_end (by omega), hd, cutL_nil]
  | succ n ih =>
    intro i h
    by_cases hi : i < s.size
    · have hi' : i < s.data.toList.length := by rw [len_list]; exact hi
      have hd : s.data.toList.drop i = s[i] :: s.data.toList.drop (i + 1) := by
        rw [List.drop_eq_getElem_cons hi']
        rfl
      have hb := endC_bd hi
      have hsl := scan_list s (goCls (cls s[i].toNat)) _ (i + 1) (Nat.le_refl _) hi
      have hw : s.extract i (endC s i hi) = ⟨(s[i] :: (s.data.toList.drop (i + 1)).takeWhile (goCls (cls s[i].toNat))).toArray⟩ := by
        apply bytes_ext
        rw [extract_list, hd, hsl.1]
        show _ = s[i] :: _
        rw [show endC s i hi - i = (endC s i hi - (i + 1)) + 1 by omega, List.take_succ_cons]
        rfl
      rw [cutF_step hi, hd, cutL_cons, ih (i + 1) (by omega), ih (endC s i hi) (by omega), hw, hsl.2]
      rfl
    · have hd : s.data.toList.drop i = [] := List.drop_eq_nil_of_le (by rw [len_list]; omega)
      rw [cutF_end hi, hd, cutL_nil]
theorem cut_list (s : ByteArray) : cutF s 0 = cutL s.data.toList := cutF_list s _ 0 (Nat.le_refl _)
end Go.Proofs.YtljdbjfbcjigaaaGreatDoor
