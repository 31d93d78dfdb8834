/-
  Plain mathematics of numbers in texts: what a text tells, and that only one text tells it. Nothing of a program stands here.
-/
import Derived.Test.YtoepehlndljkoaaDoorMath
import Derived.Lib.AtoiAllCases
import Derived.Lib.ItoaNum
namespace Go.Proofs.YtoepehlndljkoaaDoor

def isDig (b : UInt8) : Bool := decide (48 ≤ b.toNat ∧ b.toNat ≤ 57)
/-- What digits tell, behind what was told already. -/
def valFrom (acc : Nat) : List UInt8 → Nat
  | [] => acc
  | b :: l => valFrom (acc * 10 + (b.toNat - 48)) l
def numV (l : List UInt8) : Nat := valFrom 0 l
theorem valFrom_snoc (l : List UInt8) (b : UInt8) : ∀ acc, valFrom acc (l ++ [b]) = valFrom acc l * 10 + (b.toNat - 48) := by
  induction l with
  | nil => intro acc; rfl
  | cons c l ih => intro acc; exact ih _
theorem numV_snoc (l : List UInt8) (b : UInt8) : numV (l ++ [b]) = numV l * 10 + (b.toNat - 48) := valFrom_snoc l b 0
theorem valFrom_ge (l : List UInt8) : ∀ acc, acc * 10 ^ l.length ≤ valFrom acc l := by
  induction l with
  | nil => intro acc; show acc * 1 ≤ acc; omega
  | cons c l ih =>
    intro acc
    have := ih (acc * 10 + (c.toNat - 48))
    rw [List.length_cons, Nat.pow_succ]
    have h1 : acc * (10 ^ l.length * 10) = (acc * 10) * 10 ^ l.length := by rw [Nat.mul_comm (10 ^ l.length) 10, Nat.mul_assoc]
    rw [h1]
    have h2 : acc * 10 ≤ acc * 10 + (c.toNat - 48) := Nat.le_add_right _ _
    exact Nat.le_trans (Nat.mul_le_mul_right (10 ^ l.length) h2) this
theorem valFrom_lt (l : List UInt8) : l.all isDig = true → ∀ acc, valFrom acc l < (acc + 1) * 10 ^ l.length := by
  induction l with
  | nil => intro _ acc; show acc < (acc + 1) * 1; omega
  | cons c l ih =>
    intro h acc
    simp only [List.all_cons, Bool.and_eq_true] at h
    have hc : c.toNat - 48 ≤ 9 := by have := h.1; unfold isDig at this; rw [decide_eq_true_eq] at this; omega
    have := ih h.2 (acc * 10 + (c.toNat - 48))
    rw [List.length_cons, Nat.pow_succ]
    have h1 : (acc + 1) * (10 ^ l.length * 10) = ((acc + 1) * 10) * 10 ^ l.length := by rw [Nat.mul_comm (10 ^ l.length) 10, Nat.mul_assoc]
    rw [h1]
    have h2 : acc * 10 + (c.toNat - 48) + 1 ≤ (acc + 1) * 10 := by omega
    exact Nat.lt_of_lt_of_le this (Nat.mul_le_mul_right (10 ^ l.length) h2)
theorem numV_lt {l : List UInt8} (h : l.all isDig = true) (hl : l.length ≤ 17) : numV l < 100000000000000000 := by
  have h1 := valFrom_lt l h 0
  have h2 : 10 ^ l.length ≤ 10 ^ 17 := Nat.pow_le_pow_right (by omega) hl
  have h3 : (10 : Nat) ^ 17 = 100000000000000000 := by decide
  unfold numV
  omega
/-- All of the first k bytes are digits. -/
def digTo (s : ByteArray) (k : Nat) : Prop := (s.data.toList.take k).all isDig = true
theorem take_snoc (s : ByteArray) (k : Nat) (h : k < s.size) : s.data.toList.take (k + 1) = s.data.toList.take k ++ [s[k]] := by
  rw [List.take_succ_eq_append_getElem (by simpa using h)]; rfl
theorem digTo_succ {s : ByteArray} {k : Nat} (h : digTo s k) (hk : k < s.size) (hb : 48 ≤ (s[k]).toNat ∧ (s[k]).toNat ≤ 57) : digTo s (k + 1) := by
  unfold digTo at h ⊢
  rw [take_snoc s k hk, List.all_append, h]
  simp [isDig, hb]
theorem digTo_end {s : ByteArray} (h : digTo s s.size) : s.data.toList.all isDig = true := by
  unfold digTo at h
  rwa [List.take_of_length_le (by simp)] at h
theorem not_dig {s : ByteArray} {k : Nat} (hk : k < s.size) (hb : ¬ (48 ≤ (s[k]).toNat ∧ (s[k]).toNat ≤ 57)) : s.data.toList.all isDig = false := by
  rw [List.all_eq_false]
  exact ⟨s[k], mem_iff_get.2 ⟨k, hk, rfl⟩, by unfold isDig; simpa using hb⟩
/-- What the first k bytes tell. -/
def valTo (s : ByteArray) (k : Nat) : Nat := numV (s.data.toList.take k)
theorem valTo_succ {s : ByteArray} {k : Nat} (hk : k < s.size) : valTo s (k + 1) = valTo s k * 10 + ((s[k]).toNat - 48) := by
  unfold valTo; rw [take_snoc s k hk, numV_snoc]
theorem valTo_end (s : ByteArray) : valTo s s.size = numV s.data.toList := by
  unfold valTo; rw [List.take_of_length_le (by simp)]
theorem valTo_lt {s : ByteArray} {k : Nat} (h : digTo s k) (hk : k ≤ s.size) (hs : s.size ≤ 17) : valTo s k < 100000000000000000 :=
  numV_lt h (by rw [List.length_take]; simp; omega)
/-- What the model's reader of numbers says of a text behind its sign. -/
def numEnd (neg : Bool) (r : ByteArray) : Int × Bool :=
  if r.size = 0 ∨ 17 < r.size ∨ (r.data.toList.head? = some 48 ∧ (1 < r.size ∨ neg = true)) then (0, false)
  else if r.data.toList.all isDig = true then (if neg then -(numV r.data.toList : Int) else numV r.data.toList, true) else (0, false)
theorem numEnd_no {neg : Bool} {r : ByteArray} (h : r.size = 0 ∨ 17 < r.size ∨ (r.data.toList.head? = some 48 ∧ (1 < r.size ∨ neg = true))) : numEnd neg r = (0, false) := by unfold numEnd; rw [if_pos h]
theorem numEnd_bad {neg : Bool} {r : ByteArray} (h : r.data.toList.all isDig = false) : numEnd neg r = (0, false) := by
  unfold numEnd; rw [h]; simp
theorem numEnd_yes {neg : Bool} {r : ByteArray} (h : ¬ (r.size = 0 ∨ 17 < r.size ∨ (r.data.toList.head? = some 48 ∧ (1 < r.size ∨ neg = true)))) (hd : r.data.toList.all isDig = true) :
    numEnd neg r = (if neg then -(numV r.data.toList : Int) else numV r.data.toList, true) := by unfold numEnd; rw [if_neg h, if_pos hd]
theorem head_get {r : ByteArray} (h : 0 < r.size) : r.data.toList.head? = some r[0] := by
  rw [List.head?_eq_getElem?, List.getElem?_eq_getElem (by simpa using h)]; rfl
/-- What the model's reader of numbers says of a text. -/
def l30F (s : ByteArray) : Int × Bool := if s.data.toList.head? = some 45 then numEnd true (s.extract 1 s.size) else numEnd false s
/-- A numeral without needless zeros. -/
def canon (l : List UInt8) : Bool := !l.isEmpty && l.all isDig && (!(l.head? == some 48) || l.length == 1)
/-- The number from 0 to 255 that a text tells, or -1. -/
def numB (l : List UInt8) : Int := if canon l = true ∧ numV l ≤ 255 then numV l else -1

theorem canon_one {b : UInt8} (h : isDig b = true) : canon [b] = true := by simp [canon, h]
theorem canon_snoc {l : List UInt8} {b : UInt8} (hl : l ≠ []) (h : canon (l ++ [b]) = true) : canon l = true ∧ isDig b = true ∧ 1 ≤ numV l := by
  cases l with
  | nil => exact absurd rfl hl
  | cons c r =>
    simp only [canon, List.cons_append, List.isEmpty_cons, Bool.not_false, Bool.true_and, List.all_cons, List.all_append, List.all_nil, Bool.and_true, List.head?_cons, List.length_cons, List.length_append, List.length_nil, Bool.and_eq_true, Bool.or_eq_true, Bool.not_eq_true', beq_iff_eq] at h ⊢
    obtain ⟨⟨hc, hr, hb⟩, hz⟩ := h
    have hz' : (some c == some 48) = false := by
      rcases hz with hz | hz
      · exact hz
      · omega
    refine ⟨⟨⟨hc, hr⟩, .inl hz'⟩, hb, ?_⟩
    have hne : c ≠ 48 := by simpa using hz'
    have hge := valFrom_ge r (0 * 10 + (c.toNat - 48))
    have hcd : 49 ≤ c.toNat := by
      unfold isDig at hc; rw [decide_eq_true_eq] at hc
      have : c.toNat ≠ 48 := fun e => hne (UInt8.toNat_inj.1 (by rw [e]; rfl))
      omega
    have hp : 1 ≤ 10 ^ r.length := Nat.one_le_pow _ _ (by omega)
    show 1 ≤ valFrom 0 (c :: r)
    show 1 ≤ valFrom (0 * 10 + (c.toNat - 48)) r
    have : 1 * 1 ≤ (0 * 10 + (c.toNat - 48)) * 10 ^ r.length := Nat.mul_le_mul (by omega) hp
    omega

theorem ofNat_dig {b : UInt8} (h : isDig b = true) : UInt8.ofNat (48 + (b.toNat - 48)) = b := by
  unfold isDig at h; rw [decide_eq_true_eq] at h
  apply UInt8.toNat_inj.1
  rw [UInt8.toNat_ofNat']
  have := b.toNat_lt
  omega
theorem dig_lt {b : UInt8} (h : isDig b = true) : b.toNat - 48 < 10 := by
  unfold isDig at h; rw [decide_eq_true_eq] at h; omega

/-- Only one text tells a number. -/
theorem canon_dec : ∀ (n : Nat) (l : List UInt8), l.length = n → canon l = true → Lib.decDigits (numV l) = l := by
  intro n
  induction n with
  | zero =>
    intro l hl h
    have : l = [] := List.length_eq_zero_iff.1 hl
    subst this
    simp [canon] at h
  | succ n ih =>
    intro l hl h
    have hne : l ≠ [] := by rintro rfl; simp at hl
    obtain ⟨r, b, rfl⟩ : ∃ r b, l = r ++ [b] := ⟨l.dropLast, l.getLast hne, (List.dropLast_concat_getLast hne).symm⟩
    by_cases hr : r = []
    · subst hr
      have hb : isDig b = true := by simp [canon] at h; exact h
      have e : numV ([] ++ [b]) = b.toNat - 48 := by rw [numV_snoc]; show 0 * 10 + _ = _; omega
      rw [e, Lib.decDigits_one (dig_lt hb), ofNat_dig hb]
      rfl
    · obtain ⟨h1, h2, h3⟩ := canon_snoc hr h
      have hd := dig_lt h2
      rw [numV_snoc, Lib.decDigits, dif_neg (by omega)]
      have e1 : (numV r * 10 + (b.toNat - 48)) / 10 = numV r := by omega
      have e2 : (numV r * 10 + (b.toNat - 48)) % 10 = b.toNat - 48 := by omega
      rw [e1, e2, ih r (by simpa using hl) h1, ofNat_dig h2]

theorem dec1 : ∀ n < 10, canon [UInt8.ofNat (48 + n)] = true ∧ numV [UInt8.ofNat (48 + n)] = n := by decide +kernel
theorem dec2 : ∀ n < 100, 10 ≤ n → canon [UInt8.ofNat (48 + n / 10), UInt8.ofNat (48 + n % 10)] = true ∧ numV [UInt8.ofNat (48 + n / 10), UInt8.ofNat (48 + n % 10)] = n := by decide +kernel
theorem dec3 : ∀ n < 256, 100 ≤ n → canon [UInt8.ofNat (48 + n / 10 / 10), UInt8.ofNat (48 + n / 10 % 10), UInt8.ofNat (48 + n % 10)] = true ∧ numV [UInt8.ofNat (48 + n / 10 / 10), UInt8.ofNat (48 + n / 10 % 10), UInt8.ofNat (48 + n % 10)] = n := by decide +kernel
theorem decDigits_three {n : Nat} (h : 100 ≤ n) (h2 : n < 1000) : Lib.decDigits n = [UInt8.ofNat (48 + n / 10 / 10), UInt8.ofNat (48 + n / 10 % 10), UInt8.ofNat (48 + n % 10)] := by
  rw [Lib.decDigits, dif_neg (by omega), Lib.decDigits_two (by omega) (by omega)]
  rfl
theorem dec_canon_all (n : Nat) (hn : n < 256) : canon (Lib.decDigits n) = true ∧ numV (Lib.decDigits n) = n := by
  by_cases h1 : n < 10
  · rw [Lib.decDigits_one h1]; exact dec1 n h1
  · by_cases h2 : n < 100
    · rw [Lib.decDigits_two h1 h2]; exact dec2 n h2 (by omega)
    · rw [decDigits_three (by omega) (by omega)]; exact dec3 n hn (by omega)

theorem canon_len {l : List UInt8} (h : canon l = true) (hv : numV l ≤ 255) : l.length ≤ 3 := by
  have e := canon_dec _ l rfl h
  rw [← e, Lib.decDigits_length]
  by_cases h3 : Lib.nDigits (numV l) ≤ 3
  · exact h3
  · exfalso
    have hu : numV l < 1000 := by omega
    by_cases h1 : numV l < 10
    · rw [Lib.nDigits_small h1] at h3; omega
    · by_cases h2 : numV l < 100
      · have := Lib.nDigits_unique 1 (numV l) (by omega) (by omega); omega
      · have := Lib.nDigits_unique 2 (numV l) (by omega) (by omega); omega
theorem parseUint_dig : ∀ (l : List UInt8) (acc : Nat), l.all isDig = true → (acc + 1) * 10 ^ l.length ≤ 1000000 → Lib.parseUint10 acc l = .ok (valFrom acc l)
  | [], acc, _, _ => rfl
  | c :: r, acc, h, hb => by
    simp only [List.all_cons, Bool.and_eq_true] at h
    have hc : 48 ≤ c.toNat ∧ c.toNat ≤ 57 := by have := h.1; unfold isDig at this; rwa [decide_eq_true_eq] at this
    rw [List.length_cons, Nat.pow_succ] at hb
    have h1 : (acc + 1) * (10 ^ r.length * 10) = ((acc + 1) * 10) * 10 ^ r.length := by rw [Nat.mul_comm (10 ^ r.length) 10, Nat.mul_assoc]
    rw [h1] at hb
    have hp : 1 ≤ 10 ^ r.length := Nat.one_le_pow _ _ (by omega)
    have h2 : (acc + 1) * 10 * 1 ≤ (acc + 1) * 10 * 10 ^ r.length := Nat.mul_le_mul_left _ hp
    simp only [Lib.parseUint10]
    rw [if_pos hc, if_neg (by omega), if_neg (by omega)]
    exact parseUint_dig r _ h.2 (Nat.le_trans (Nat.mul_le_mul_right _ (by omega)) hb)
/-- A text that tells a number is read so. -/
theorem atoi_canon {l : List UInt8} (h : canon l = true) (hv : numV l ≤ 255) : Lib.atoiAll l = .ok (numV l) := by
  have hlen := canon_len h hv
  cases l with
  | nil => simp [canon] at h
  | cons c r =>
    have hd : (c :: r).all isDig = true := by
      simp only [canon, Bool.and_eq_true] at h; exact h.1.2
    have hc : 48 ≤ c.toNat := by
      simp only [List.all_cons, Bool.and_eq_true] at hd
      have := hd.1; unfold isDig at this; rw [decide_eq_true_eq] at this; omega
    rw [Lib.atoiAll_plain c r (by omega) (by omega)]
    have hp : (0 + 1) * 10 ^ (c :: r).length ≤ 1000000 := by
      have : (c :: r).length = 1 ∨ (c :: r).length = 2 ∨ (c :: r).length = 3 := by simp only [List.length_cons] at hlen ⊢; omega
      rcases this with e | e | e <;> rw [e] <;> decide
    unfold Lib.parseMag
    rw [if_neg (by simp), parseUint_dig _ 0 hd hp]
    show (if 9223372036854775808 ≤ numV (c :: r) then Lib.NumEnd.range else Lib.NumEnd.ok ((numV (c :: r) : Nat) : Int)) = _
    rw [if_neg (by omega)]
/-- The program's way to a number: read, then written again. -/
theorem numB_of_atoi {l : List UInt8} {v : Int} (h0 : 0 ≤ v) (h1 : v ≤ 255) (he : Lib.itoa v = l) : numB l = v := by
  have hv : Lib.itoa v = Lib.decDigits v.toNat := by unfold Lib.itoa; rw [if_neg (by omega)]
  have hc := dec_canon_all v.toNat (by omega)
  rw [← hv, he] at hc
  unfold numB
  rw [if_pos ⟨hc.1, by omega⟩]
  omega
theorem numB_not {l : List UInt8} (h : ∀ v : Int, Lib.atoiAll l = .ok v → 0 ≤ v → v ≤ 255 → Lib.itoa v ≠ l) : numB l = -1 := by
  unfold numB
  by_cases hc : canon l = true ∧ numV l ≤ 255
  · exfalso
    have e := canon_dec _ l rfl hc.1
    refine h _ (atoi_canon hc.1 hc.2) (by omega) (by omega) ?_
    unfold Lib.itoa
    rw [if_neg (by omega)]
    simpa using e
  · rw [if_neg hc]
theorem numB_range (l : List UInt8) : -1 ≤ numB l ∧ numB l ≤ 255 := by
  unfold numB; split <;> omega
theorem numB_l30F (s : ByteArray) : numB s.data.toList = if (l30F s).2 = true ∧ 0 ≤ (l30F s).1 ∧ (l30F s).1 ≤ 255 then (l30F s).1 else -1 := by
  unfold l30F
  by_cases hneg : s.data.toList.head? = some 45
  · rw [if_pos hneg]
    have hnc : canon s.data.toList = false := by
      cases hl : s.data.toList with
      | nil => rfl
      | cons c r =>
        rw [hl] at hneg
        have : c = 45 := by simpa using hneg
        subst this
        simp [canon, isDig]
    have e1 : numB s.data.toList = -1 := by unfold numB; rw [hnc]; simp
    rw [e1, if_neg]
    rintro ⟨h1, h2, h3⟩
    unfold numEnd at h1 h2
    split at h1
    · cases h1
    · rename_i hn
      rw [if_neg hn] at h2
      split at h1
      · rename_i hd
        rw [if_pos hd] at h2
        have h2' : 0 ≤ -(numV (s.extract 1 s.size).data.toList : Int) := h2
        generalize s.extract 1 s.size = r at *
        have hr0 : r.size ≠ 0 := fun e => hn (.inl e)
        have hc : canon r.data.toList = true := by
          unfold canon
          have h0 : r.data.toList.isEmpty = false := by
            rw [List.isEmpty_eq_false_iff]; intro e; apply hr0; have := congrArg List.length e; simpa using this
          have h48 : (r.data.toList.head? == some 48) = false := by rw [beq_eq_false_iff_ne]; exact fun e => hn (.inr (.inr ⟨e, .inr rfl⟩))
          rw [hd, h0, h48]; rfl
        have hv0 : numV r.data.toList = 0 := by omega
        have := canon_dec _ _ rfl hc
        rw [hv0, Lib.decDigits_one (by omega)] at this
        exact hn (.inr (.inr ⟨by rw [← this]; rfl, .inr rfl⟩))
      · cases h1
  · rw [if_neg hneg]
    unfold numB
    by_cases hc : canon s.data.toList = true ∧ numV s.data.toList ≤ 255
    · rw [if_pos hc]
      have hlen := canon_len hc.1 hc.2
      have hlen' : s.size ≤ 3 := by simpa using hlen
      have hcc := hc.1
      simp only [canon, Bool.and_eq_true, Bool.or_eq_true, Bool.not_eq_true', beq_iff_eq, beq_eq_false_iff_ne] at hcc
      obtain ⟨⟨h1, h2⟩, h3⟩ := hcc
      have hs0 : s.size ≠ 0 := by
        intro e
        have : s.data.toList = [] := List.length_eq_zero_iff.1 (by simpa using e)
        rw [this] at h1; simp at h1
      have hy : numEnd false s = (((numV s.data.toList : Nat) : Int), true) := by
        rw [numEnd_yes (by
          rintro (h | h | ⟨h, h' | h'⟩)
          · exact hs0 h
          · omega
          · rcases h3 with h3 | h3
            · exact h3 h
            · simp at h3; omega
          · cases h') h2]
        rfl
      rw [hy, if_pos ⟨rfl, by show (0 : Int) ≤ (numV s.data.toList : Int); omega, by show ((numV s.data.toList : Nat) : Int) ≤ 255; omega⟩]
    · rw [if_neg hc, if_neg]
      rintro ⟨h1, h2, h3⟩
      unfold numEnd at h1 h2 h3
      split at h1
      · cases h1
      · rename_i hn
        rw [if_neg hn] at h2 h3
        split at h1
        · rename_i hd
          rw [if_pos hd] at h2 h3
          have h3' : ((numV s.data.toList : Nat) : Int) ≤ 255 := h3
          apply hc
          refine ⟨?_, by omega⟩
          have hs0 : s.data.toList.isEmpty = false := by
            rw [List.isEmpty_eq_false_iff]; intro e; apply hn; left; have := congrArg List.length e; simpa using this
          unfold canon
          rw [hd, hs0]
          by_cases h48 : s.data.toList.head? = some 48
          · have : s.size = 1 := by
              have h1' : ¬ 1 < s.size := fun e => hn (.inr (.inr ⟨h48, .inl e⟩))
              have h0' : s.size ≠ 0 := fun e => hn (.inl e)
              omega
            have h1 : (s.data.toList.length == 1) = true := by rw [beq_iff_eq]; simpa using this
            rw [h1]; simp
          · have h1 : (s.data.toList.head? == some 48) = false := by rw [beq_eq_false_iff_ne]; exact h48
            rw [h1]; rfl
        · cases h1
end Go.Proofs.YtoepehlndljkoaaDoor
