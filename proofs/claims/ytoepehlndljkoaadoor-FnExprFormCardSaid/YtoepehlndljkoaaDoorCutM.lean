/-
  Plain mathematics of cutting: where a word ends, which words a text has, and that runs taken first give the same words. Nothing of a program stands here.
-/
import Derived.Test.YtoepehlndljkoaaDoorC5
namespace Go.Proofs.YtoepehlndljkoaaDoor
open Go.RowKit

/-- From k on, as far as a test says yes. -/
def scanN (s : ByteArray) (p : UInt8 → Bool) : Nat → Nat → Nat
  | 0, k => k
  | n + 1, k => if h : k < s.size then (if p s[k] = true then scanN s p n (k + 1) else k) else k
def scanP (s : ByteArray) (p : UInt8 → Bool) (k : Nat) : Nat := scanN s p (s.size - k) k
theorem scanP_step {s : ByteArray} {p : UInt8 → Bool} {k : Nat} (h : k < s.size) (hp : p s[k] = true) : scanP s p k = scanP s p (k + 1) := by
  unfold scanP
  obtain ⟨n, hn⟩ : ∃ n, s.size - k = n + 1 := ⟨s.size - k - 1, by omega⟩
  have hn' : s.size - (k + 1) = n := by omega
  rw [hn, hn']
  show (if h : k < s.size then (if p s[k] = true then scanN s p n (k + 1) else k) else k) = _
  rw [dif_pos h, if_pos hp]
theorem scanP_stop {s : ByteArray} {p : UInt8 → Bool} {k : Nat} (h : ∀ h : k < s.size, p s[k] = false) : scanP s p k = k := by
  unfold scanP
  cases hn : s.size - k with
  | zero => rfl
  | succ n =>
    show (if h : k < s.size then (if p s[k] = true then scanN s p n (k + 1) else k) else k) = _
    have hk : k < s.size := by omega
    rw [dif_pos hk, if_neg (by rw [h hk]; simp)]
theorem scanN_bd (s : ByteArray) (p : UInt8 → Bool) : ∀ n k, k ≤ s.size → k ≤ scanN s p n k ∧ scanN s p n k ≤ s.size ∧ ∀ j, (h : j < s.size) → k ≤ j → j < scanN s p n k → p s[j] = true
  | 0, k, hk => ⟨Nat.le_refl _, hk, fun j _ h1 h2 => by have : scanN s p 0 k = k := rfl; omega⟩
  | n + 1, k, hk => by
    by_cases h : k < s.size
    · by_cases hp : p s[k] = true
      · have e : scanN s p (n + 1) k = scanN s p n (k + 1) := by
          show (if h : k < s.size then (if p s[k] = true then scanN s p n (k + 1) else k) else k) = _
          rw [dif_pos h, if_pos hp]
        have ih := scanN_bd s p n (k + 1) h
        rw [e]
        refine ⟨by omega, ih.2.1, fun j hj h1 h2 => ?_⟩
        by_cases ej : k = j
        · subst ej; exact hp
        · exact ih.2.2 j hj (by omega) h2
      · have e : scanN s p (n + 1) k = k := by
          show (if h : k < s.size then (if p s[k] = true then scanN s p n (k + 1) else k) else k) = _
          rw [dif_pos h, if_neg hp]
        rw [e]
        exact ⟨Nat.le_refl _, hk, fun j _ h1 h2 => by omega⟩
    · have e : scanN s p (n + 1) k = k := by
        show (if h : k < s.size then (if p s[k] = true then scanN s p n (k + 1) else k) else k) = _
        rw [dif_neg h]
      rw [e]
      exact ⟨Nat.le_refl _, hk, fun j _ h1 h2 => by omega⟩
theorem scanP_bd {s : ByteArray} {p : UInt8 → Bool} {k : Nat} (h : k ≤ s.size) : k ≤ scanP s p k ∧ scanP s p k ≤ s.size ∧ ∀ j, (h : j < s.size) → k ≤ j → j < scanP s p k → p s[j] = true := scanN_bd s p _ k h
theorem scanN_ext {s : ByteArray} {p q : UInt8 → Bool} (h : ∀ b, p b = q b) : ∀ n k, scanN s p n k = scanN s q n k := by
  have : p = q := funext h
  subst this
  intros; rfl
theorem scanP_ext {s : ByteArray} {p q : UInt8 → Bool} (h : ∀ b, p b = q b) (k : Nat) : scanP s p k = scanP s q k := scanN_ext h _ k

/-- Does a byte go on with a word of a class (the model)? -/
def goCls (c : Int) (b : UInt8) : Bool := cls b.toNat == c && decide (c < 3)
/-- Does a byte go on with a run of a kind (the program)? -/
def goKind (z : Int) (b : UInt8) : Bool := kindN b.toNat == z && (z == 1 || z == 2 || z == 5)
def endC (s : ByteArray) (i : Nat) (h : i < s.size) : Nat := scanP s (goCls (cls s[i].toNat)) (i + 1)
def endK (s : ByteArray) (i : Nat) (h : i < s.size) : Nat := scanP s (goKind (kindN s[i].toNat)) (i + 1)
theorem endC_bd {s : ByteArray} {i : Nat} (h : i < s.size) : i < endC s i h ∧ endC s i h ≤ s.size := by
  have := scanP_bd (p := goCls (cls s[i].toNat)) (show i + 1 ≤ s.size from h); unfold endC; omega
theorem endK_bd {s : ByteArray} {i : Nat} (h : i < s.size) : i < endK s i h ∧ endK s i h ≤ s.size := by
  have := scanP_bd (p := goKind (kindN s[i].toNat)) (show i + 1 ≤ s.size from h); unfold endK; omega
theorem kind_of (b : UInt8) : kindN b.toNat = if cls b.toNat = 4 then 5 else cls b.toNat := kindN_cls b.toNat (by have := b.toNat_lt; omega)
theorem cls_range (n : Nat) : 0 ≤ cls n ∧ cls n ≤ 4 := by unfold cls; repeat' split <;> omega
theorem go_same {c : Int} (hc : c = 1 ∨ c = 2 ∨ c = 3) (b : UInt8) : goCls c b = goKind c b := by
  unfold goCls goKind
  rw [kind_of]
  have hr := cls_range b.toNat
  by_cases h4 : cls b.toNat = 4
  · rw [if_pos h4, h4]
    rcases hc with rfl | rfl | rfl <;> rfl
  · rw [if_neg h4]
    rcases hc with rfl | rfl | rfl
    · cases (cls b.toNat == 1) <;> rfl
    · cases (cls b.toNat == 2) <;> rfl
    · cases (cls b.toNat == 3) <;> rfl

/-- The kind of the word of a text that stands together. -/
def wordKind (t : ByteArray) (z : Int) : Int := if isKeyB t = true then 4 else z

/-- The words of a text from i on, with fuel; none if there is a wrong one. -/
noncomputable def cutN (s : ByteArray) : Nat → Nat → Option (List (Int × ByteArray))
  | 0, _ => some []
  | n + 1, i => if h : i < s.size then
      if cls s[i].toNat = 4 then cutN s n (i + 1)
      else if cls s[i].toNat ≠ 0 ∧ validB (wordKind (s.extract i (endC s i h)) (cls s[i].toNat)) (s.extract i (endC s i h)) = true then
        (cutN s n (endC s i h)).map ((wordKind (s.extract i (endC s i h)) (cls s[i].toNat), s.extract i (endC s i h)) :: ·)
      else none
    else some []
theorem cutN_fuel (s : ByteArray) : ∀ n m i, s.size - i ≤ n → s.size - i ≤ m → cutN s n i = cutN s m i
  | 0, 0, _, _, _ => rfl
  | 0, m + 1, i, h, _ => by
    have hi : ¬ i < s.size := by omega
    show some [] = cutN s (m + 1) i
    unfold cutN
    rw [dif_neg hi]
  | n + 1, 0, i, _, h => by
    have hi : ¬ i < s.size := by omega
    show cutN s (n + 1) i = some []
    unfold cutN
    rw [dif_neg hi]
  | n + 1, m + 1, i, h1, h2 => by
    unfold cutN
    by_cases hi : i < s.size
    · have hb := endC_bd hi
      rw [dif_pos hi, dif_pos hi, cutN_fuel s n m (i + 1) (by omega) (by omega), cutN_fuel s n m (endC s i hi) (by omega) (by omega)]
    · rw [dif_neg hi, dif_neg hi]
noncomputable def cutF (s : ByteArray) (i : Nat) : Option (List (Int × ByteArray)) := cutN s (s.size - i) i
theorem cutF_end {s : ByteArray} {i : Nat} (h : ¬ i < s.size) : cutF s i = some [] := by
  unfold cutF
  rw [show s.size - i = 0 by omega]
  rfl
theorem cutF_step {s : ByteArray} {i : Nat} (h : i < s.size) : cutF s i = if cls s[i].toNat = 4 then cutF s (i + 1)
      else if cls s[i].toNat ≠ 0 ∧ validB (wordKind (s.extract i (endC s i h)) (cls s[i].toNat)) (s.extract i (endC s i h)) = true then
        (cutF s (endC s i h)).map ((wordKind (s.extract i (endC s i h)) (cls s[i].toNat), s.extract i (endC s i h)) :: ·)
      else none := by
  have hb := endC_bd h
  unfold cutF
  obtain ⟨n, hn⟩ : ∃ n, s.size - i = n + 1 := ⟨s.size - i - 1, by omega⟩
  rw [hn, cutN_fuel s (s.size - (i + 1)) n (i + 1) (by omega) (by omega), cutN_fuel s (s.size - endC s i h) n (endC s i h) (by omega) (by omega)]
  conv => lhs; unfold cutN
  rw [dif_pos h]
theorem cutF_blank {s : ByteArray} {i : Nat} (h : i < s.size) (hc : cls s[i].toNat = 4) : cutF s i = cutF s (i + 1) := by rw [cutF_step h, if_pos hc]
theorem cutF_word {s : ByteArray} {i : Nat} (h : i < s.size) (hc : cls s[i].toNat ≠ 4) (h0 : cls s[i].toNat ≠ 0) (hv : validB (wordKind (s.extract i (endC s i h)) (cls s[i].toNat)) (s.extract i (endC s i h)) = true) :
    cutF s i = (cutF s (endC s i h)).map ((wordKind (s.extract i (endC s i h)) (cls s[i].toNat), s.extract i (endC s i h)) :: ·) := by rw [cutF_step h, if_neg hc, if_pos ⟨h0, hv⟩]
theorem cutF_bad {s : ByteArray} {i : Nat} (h : i < s.size) (hc : cls s[i].toNat ≠ 4) (h0 : cls s[i].toNat = 0 ∨ validB (wordKind (s.extract i (endC s i h)) (cls s[i].toNat)) (s.extract i (endC s i h)) = false) : cutF s i = none := by
  rw [cutF_step h, if_neg hc, if_neg]
  rintro ⟨h1, h2⟩
  rcases h0 with h0 | h0
  · exact h1 h0
  · rw [h0] at h2; cases h2

/-- The runs of a text from i on, with fuel. -/
def runsN (s : ByteArray) : Nat → Nat → List ByteArray
  | 0, _ => []
  | n + 1, i => if h : i < s.size then s.extract i (endK s i h) :: runsN s n (endK s i h) else []
theorem runsN_fuel (s : ByteArray) : ∀ n m i, s.size - i ≤ n → s.size - i ≤ m → runsN s n i = runsN s m i
  | 0, 0, _, _, _ => rfl
  | 0, m + 1, i, h, _ => by
    have hi : ¬ i < s.size := by omega
    show [] = runsN s (m + 1) i
    unfold runsN
    rw [dif_neg hi]
  | n + 1, 0, i, _, h => by
    have hi : ¬ i < s.size := by omega
    show runsN s (n + 1) i = []
    unfold runsN
    rw [dif_neg hi]
  | n + 1, m + 1, i, h1, h2 => by
    unfold runsN
    by_cases hi : i < s.size
    · have hb := endK_bd hi
      rw [dif_pos hi, dif_pos hi, runsN_fuel s n m (endK s i hi) (by omega) (by omega)]
    · rw [dif_neg hi, dif_neg hi]
def runsF (s : ByteArray) (i : Nat) : List ByteArray := runsN s (s.size - i) i
theorem runsF_end {s : ByteArray} {i : Nat} (h : ¬ i < s.size) : runsF s i = [] := by
  unfold runsF
  rw [show s.size - i = 0 by omega]
  rfl
theorem runsF_step {s : ByteArray} {i : Nat} (h : i < s.size) : runsF s i = s.extract i (endK s i h) :: runsF s (endK s i h) := by
  have hb := endK_bd h
  unfold runsF
  obtain ⟨n, hn⟩ : ∃ n, s.size - i = n + 1 := ⟨s.size - i - 1, by omega⟩
  rw [hn, runsN_fuel s (s.size - endK s i h) n (endK s i h) (by omega) (by omega)]
  conv => lhs; unfold runsN
  rw [dif_pos h]

/-- The kind that the program gives a run. -/
def runKind (t : ByteArray) : Int := if isKeyB t = true then 4 else if h : 0 < t.size then kindN t[0].toNat else 0
/-- The words of runs. -/
noncomputable def procR : List ByteArray → Option (List (Int × ByteArray))
  | [] => some []
  | t :: r => if runKind t = 5 then procR r else if validB (runKind t) t = true then (procR r).map ((runKind t, t) :: ·) else none

theorem extract_get {s : ByteArray} {i k : Nat} (h : i < k) (hk : k ≤ s.size) : ∃ h0 : 0 < (s.extract i k).size, (s.extract i k)[0] = s[i]'(by omega) := by
  have hz : (s.extract i k).size = k - i := by rw [ByteArray.size_extract]; omega
  refine ⟨by omega, ?_⟩
  rw [ByteArray.getElem_extract]
  simp
theorem key_letter {t : ByteArray} (h : isKeyB t = true) : ∃ h0 : 0 < t.size, cls t[0].toNat = 1 := by
  obtain ⟨k, hk, rfl⟩ := (isKeyB_iff t).1 h
  have all : ∀ k, k < 9 → ∃ h0 : 0 < (keyB k).size, cls (keyB k)[0].toNat = 1 := by decide +kernel
  exact all k hk

theorem runs_cut (s : ByteArray) : ∀ n i, s.size - i ≤ n → procR (runsF s i) = cutF s i := by
  intro n
  induction n with
  | zero =>
    intro i h
    rw [runsF_end (by omega), cutF_end (by omega)]
    rfl
  | succ n ih =>
    intro i h
    by_cases hi : i < s.size
    · have hb := endK_bd hi
      obtain ⟨h0, hg⟩ := extract_get hb.1 hb.2
      have hk : runKind (s.extract i (endK s i hi)) = wordKind (s.extract i (endK s i hi)) (kindN s[i].toNat) := by
        unfold runKind wordKind
        rw [dif_pos h0, hg]
      have hnk : cls s[i].toNat ≠ 1 → isKeyB (s.extract i (endK s i hi)) = false := by
        intro hne
        rw [Bool.eq_false_iff]
        intro hkey
        obtain ⟨_, hc⟩ := key_letter hkey
        rw [hg] at hc
        exact hne hc
      have hr := cls_range s[i].toNat
      rw [runsF_step hi]
      show (if runKind _ = 5 then _ else _) = _
      rw [hk, kind_of, ih _ (by omega)]
      by_cases h4 : cls s[i].toNat = 4
      · rw [if_pos h4]
        have hkey := hnk (by omega)
        have e : wordKind (s.extract i (endK s i hi)) 5 = 5 := by unfold wordKind; rw [hkey]; rfl
        rw [e, if_pos rfl]
        have skip : ∀ m j, i + 1 ≤ j → endK s i hi - j ≤ m → j ≤ endK s i hi → cutF s j = cutF s (endK s i hi) := by
          intro m
          induction m with
          | zero => intro j _ h1 h2; rw [show j = endK s i hi by omega]
          | succ m ihm =>
            intro j hj h1 h2
            by_cases e : j = endK s i hi
            · rw [e]
            · have hjs : j < s.size := by omega
              have hp := (scanP_bd (p := goKind (kindN s[i].toNat)) (show i + 1 ≤ s.size from hi)).2.2 j hjs hj (by show j < endK s i hi; omega)
              have hj4 : cls s[j].toNat = 4 := by
                unfold goKind at hp
                rw [Bool.and_eq_true, beq_iff_eq, kind_of s[i], if_pos h4, kind_of] at hp
                have h5 := hp.1
                have hrj := cls_range s[j].toNat
                split at h5
                · assumption
                · omega
              rw [cutF_blank hjs hj4]
              exact ihm (j + 1) (by omega) (by omega) (by omega)
        rw [cutF_blank hi h4]
        exact (skip _ (i + 1) (Nat.le_refl _) (Nat.le_refl _) (by omega)).symm
      · rw [if_neg h4]
        by_cases hz : cls s[i].toNat = 0
        · have hkey := hnk (by omega)
          have e : wordKind (s.extract i (endK s i hi)) (cls s[i].toNat) = 0 := by unfold wordKind; rw [hkey, hz]; rfl
          have hv : validB 0 (s.extract i (endK s i hi)) = false := by
            unfold validB; rw [if_neg (by omega), if_neg (by omega), if_neg (by omega), if_neg (by omega)]
          rw [e, if_neg (by omega), hv, if_neg (by simp), cutF_bad hi h4 (.inl hz)]
        · have hee : endK s i hi = endC s i hi := by
            unfold endK endC
            rw [kind_of, if_neg h4]
            exact (scanP_ext (go_same (by omega)) _).symm
          have hne : wordKind (s.extract i (endK s i hi)) (cls s[i].toNat) ≠ 5 := by
            unfold wordKind; split <;> omega
          rw [if_neg hne]
          rw [hee]
          by_cases hv : validB (wordKind (s.extract i (endC s i hi)) (cls s[i].toNat)) (s.extract i (endC s i hi)) = true
          · rw [if_pos hv, cutF_word hi h4 hz hv]
          · rw [if_neg hv, cutF_bad hi h4 (.inr (by simpa using hv))]
    · rw [runsF_end hi, cutF_end hi]
      rfl

/-- What CutWords returns. -/
noncomputable def cutRes (s : ByteArray) : List (Int × ByteArray) × Bool :=
  if 3000 < s.size then ([], false) else match cutF s 0 with
    | some ws => if ws.length ≤ 600 then (ws, true) else ([], false)
    | none => ([], false)
theorem cutRes_long {s : ByteArray} (h : 3000 < s.size) : cutRes s = ([], false) := by unfold cutRes; rw [if_pos h]
theorem cutRes_none {s : ByteArray} (h : cutF s 0 = none) : cutRes s = ([], false) := by unfold cutRes; rw [h]; split <;> rfl
theorem cutRes_yes {s : ByteArray} {ws : List (Int × ByteArray)} (hs : s.size ≤ 3000) (h : cutF s 0 = some ws) (hn : ws.length ≤ 600) : cutRes s = (ws, true) := by
  unfold cutRes; rw [if_neg (by omega), h]; show (if ws.length ≤ 600 then (ws, true) else ([], false)) = _; rw [if_pos hn]
theorem cutRes_many {s : ByteArray} (h : ∀ ws, cutF s 0 = some ws → 600 < ws.length) : cutRes s = ([], false) := by
  unfold cutRes
  split
  · rfl
  · cases hc : cutF s 0 with
    | none => rfl
    | some ws => show (if ws.length ≤ 600 then (ws, true) else ([], false)) = _; rw [if_neg (by have := h ws hc; omega)]
end Go.Proofs.YtoepehlndljkoaaDoor
