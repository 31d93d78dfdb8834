/-
  Drawn texts have few words, or begin with a sign: l30Many, l1Some, l1Bad, l1Text once more.
-/
import Derived.Test.YtkhcfhhejmkikaaGreatDoorMg10
import Derived.Test.YtkhcfhhejmkikaaGreatDoorMg18
import Derived.Laws.IdiomStrings
namespace Go.Proofs.YtkhcfhhejmkikaaGreatDoor
open Go.RowKit
set_option maxRecDepth 100000

theorem many_step (x k h o M : Nat) (e : k = 2 * h + 1) (hm : o + x * k ≤ M) : (o + x) + (x + x) * h ≤ M ∧ o + x ≤ M ∧ x ≤ M := by
  subst e
  have e1 : x * (2 * h + 1) = x * h + x * h + x := by rw [Nat.mul_add, Nat.mul_one, Nat.two_mul, Nat.mul_add]
  have e2 : (x + x) * h = x * h + x * h := Nat.add_mul _ _ _
  generalize x * h = y at *
  omega
theorem many_even (x k h o M : Nat) (e : k = 2 * h) (hp : 0 < k) (hm : o + x * k ≤ M) : o + (x + x) * h ≤ M ∧ x ≤ M := by
  subst e
  have e1 : x * (2 * h) = x * h + x * h := by rw [Nat.two_mul, Nat.mul_add]
  have e2 : (x + x) * h = x * h + x * h := Nat.add_mul _ _ _
  have e3 : x ≤ x * h := Nat.le_mul_of_pos_right x (by omega)
  generalize x * h = y at *
  omega

set_option maxHeartbeats 1000000 in
theorem l30Many_any (s : ByteArray) (n : Nat) (w : World) (hs : s.size ≤ 16) (hn : n ≤ 10000) :
    Calls Tryz.prog 51 #[.string s, .int .i64 (n : Int)] w fun e w' => ∃ t : ByteArray, t.size ≤ s.size * n ∧ e = .returned (.string t) ∧ Below w.heap.size w w' := by
  have hM : s.size * n ≤ 16 * 10000 := Nat.mul_le_mul hs hn
  generalize hMe : s.size * n = M at *
  go_enter Tryz.func51, Tryz.ntmps51
  go_wp2
  go_loopw [0, 1, 5] (fun x i o wr => ∃ (k : Nat) (t out : ByteArray), i = .int .i64 k ∧ x = .string t ∧ o = .string out ∧ k ≤ 10000 ∧ out.size + t.size * k ≤ M ∧ t.size ≤ 2 * M + 16 ∧ Below w.heap.size w wr) (fun _ i _ _ => (intOf i).toNat)
  case atStart => exact ⟨n, s, ⟨#[]⟩, rfl, rfl, rfl, hn, by show 0 + s.size * n ≤ M; omega, by omega, Below.refl _ _⟩
  case round =>
    obtain ⟨k, t, out, rfl, rfl, rfl, hk, hm, ht, hb⟩ := hrel
    clear hMe
    by_cases h0 : 0 < k
    · by_cases h1 : k % 2 = 1
      · have st := many_step t.size k (k / 2) out.size M (by omega) hm
        have HST := Lib.hid st.1
        have s2 := st.2.1
        have s3 := st.2.2
        clear st hm
        go_wp2
        go_ways
        all_goals try (exfalso; omega)
        go_roundw
        case rel => exact ⟨k / 2, _, _, by go_num, rfl, rfl, by omega, by rw [ByteArray.size_append, ByteArray.size_append]; exact HST.out, by rw [ByteArray.size_append]; omega, hb⟩
        case measure => simp only [intOf]; omega
      · have st := many_even t.size k (k / 2) out.size M (by omega) h0 hm
        have HST := Lib.hid st.1
        have s3 := st.2
        clear st hm
        go_wp2
        go_ways
        all_goals try (exfalso; omega)
        go_roundw
        case rel => exact ⟨k / 2, _, _, by go_num, rfl, rfl, by omega, by rw [ByteArray.size_append]; exact HST.out, by rw [ByteArray.size_append]; omega, hb⟩
        case measure => simp only [intOf]; omega
    · obtain rfl : k = 0 := by omega
      go_wp2
      go_ret
      exact ⟨out, by omega, rfl, hb⟩

/-- 'string([]byte{x})'. -/
theorem one_byte (W : World) (x : Int) : (convert 30 9 (.slice (some ⟨W.heap.size, 0, none⟩) 1 1)).run Tryz.prog (W.alloc (.cells #[.int .u8 x] 5 (0, 0))) = .ok (.string (ByteArray.empty.push (UInt8.ofNat x.toNat))) (W.alloc (.cells #[.int .u8 x] 5 (0, 0))) := by
  have hl := run_loadCells_list (P := Tryz.prog) (W.alloc (.cells #[.int .u8 x] 5 (0, 0))) ⟨W.heap.size, 0, none⟩ [.int .u8 x] (fun j v hj => by
    cases j with
    | zero => exact lit_cell W [.int .u8 x] 5 (0, 0) 0 v hj
    | succ j => simp at hj)
  rw [run_convert_bytes_string _ 30 9 5 _ 1 1 Tryz.underlying30 Tryz.underlying5 Tryz.underlying9]
  exact run_bytesToString _ _ 1 1 [x] hl

set_option maxHeartbeats 1000000 in
theorem l30Dec_any (n : Nat) (w : World) (hn : n ≤ 10000) :
    Calls Tryz.prog 76 #[.int .i64 (n : Int)] w fun e w' => ∃ t : ByteArray, t.size ≤ n + 1 ∧ e = .returned (.string t) ∧ Below w.heap.size w w' := by
  have OB := one_byte
  go_enter Tryz.func76, Tryz.ntmps76
  go_wp2
  go_loopw [0, 3] (fun i o wr => ∃ (k : Nat) (out : ByteArray), i = .int .i64 k ∧ o = .string out ∧ k + out.size ≤ n ∧ Below w.heap.size w wr) (fun i _ _ => (intOf i).toNat)
  case atStart => exact ⟨n, ⟨#[]⟩, rfl, rfl, Nat.le_refl _, Below.refl _ _⟩
  case round =>
    obtain ⟨k, out, rfl, rfl, hk, hb⟩ := hrel
    have ob := fun x => OB wr x
    clear OB
    by_cases h0 : 9 < k
    · go_wp2
      go_roundw
      case rel => exact ⟨k / 10, _, by go_num, rfl, by rw [ByteArray.size_append]; show _ + (1 + _) ≤ _; omega, hb.alloc hb.size _⟩
      case measure => simp only [intOf]; omega
    · go_wp2
      go_ret
      exact ⟨_, by rw [ByteArray.size_append]; show 1 + _ ≤ _; omega, rfl, hb.alloc hb.size _⟩
end Go.Proofs.YtkhcfhhejmkikaaGreatDoor

namespace Go.Proofs.YtkhcfhhejmkikaaGreatDoor
open Go.RowKit
set_option maxRecDepth 100000

theorem Drew.mono {R p p' : Nat} {a b : World} (h : Drew R p a b) (hp : p ≤ p') : Drew R p' a b := by
  obtain ⟨⟨q, hq, hr⟩, hb⟩ := h
  exact ⟨⟨q, by omega, hr⟩, hb⟩
theorem Drew.of_below {R p : Nat} {a b : World} (h : Rd a R p) (hb : Below a.heap.size a b) : Drew R p a b := ⟨⟨p, Nat.le_refl _, h.keep hb⟩, hb.mono (Nat.le_of_lt h.lt)⟩
/-- What a drawer of texts gives. -/
def TextDrawn (R p m : Nat) (w : World) (e : Ending) (w' : World) : Prop := ∃ s : ByteArray, s.size ≤ m ∧ e = .returned (.string s) ∧ Drew R p w w'

def someA : List ByteArray := [⟨#[97]⟩, ⟨#[98]⟩, ⟨#[120]⟩, ⟨#[103, 111]⟩, ⟨#[97, 98, 99, 100]⟩, ⟨#[122, 122]⟩]
def someB : List ByteArray := [⟨#[40]⟩, ⟨#[41]⟩, ⟨#[123]⟩, ⟨#[125]⟩, ⟨#[59]⟩, ⟨#[44]⟩, ⟨#[43]⟩, ⟨#[45]⟩, ⟨#[42]⟩, ⟨#[47]⟩, ⟨#[37]⟩, ⟨#[60]⟩, ⟨#[61]⟩, ⟨#[38]⟩, ⟨#[33]⟩, ⟨#[64]⟩]
def someN : List Int := [0, 1, 7, 10, 99, 100, 255]
theorem someA_le : ∀ s ∈ someA, s.size ≤ 9 := by decide
theorem someB_le : ∀ s ∈ someB, s.size ≤ 9 := by decide
theorem keyS_le : ∀ s ∈ keyS, s.size ≤ 9 := by decide
theorem someN_le : ∀ s ∈ someN, ∃ n : Nat, n ≤ 255 ∧ s = (n : Int) := by
  intro s hs
  have h : 0 ≤ s ∧ s ≤ 255 := by revert s; decide
  exact ⟨s.toNat, by omega, by omega⟩

set_option maxHeartbeats 2000000 in
theorem l1Some_any (R p : Nat) (w : World) (h : Rd w R p) (hp : p ≤ 900000) :
    Calls Tryz.prog 84 #[.pointer (some ⟨R, 0, none⟩)] w (TextDrawn R (p + 2) 300 w) := by
  have PK := Lib.hid (pick_drew R p 5 w h (by omega) (by omega) (by omega))
  have OA := fun q W hR hq => Lib.hid (of_lit R q someA W 9 (0, 0) hR hq (by decide) (by decide))
  have OB := fun q W hR hq => Lib.hid (of_lit R q someB W 9 (0, 0) hR hq (by decide) (by decide))
  have OK := fun q W hR hq => Lib.hid (of_lit R q keyS W 9 (0, 0) hR hq (by decide) (by decide))
  have ON := fun q W hR hq => Lib.hid (num_lit R q someN W 3 (0, 0) hR hq (by decide) (by decide))
  have KW := fun W => Lib.hid (specKeyWords_any W)
  have DC := fun n W hn => Lib.hid (l30Dec_any n W hn)
  clear h
  go_enter Tryz.func84, Tryz.ntmps84
  go_wp2_with fail
  refine PK.out.mono ?_
  rintro e w1 ⟨r, hr, rfl, hd1⟩
  obtain ⟨q1, hq1, hR1⟩ := hd1.1
  replace hd1 := Lib.hid hd1
  replace hR1 := Lib.hid hR1
  clear PK
  have hcase : r = 0 ∨ r = 1 ∨ r = 2 ∨ r = 3 ∨ r = 4 := by omega
  rcases hcase with rfl | rfl | rfl | hr34
  · go_wp2_with fail
    refine (OA q1 w1 hR1.out (by omega)).out.mono ?_
    rintro e w2 ⟨s, hs, rfl, hd2⟩
    have hz := someA_le s hs
    replace hd2 := Lib.hid (hd1.out.trans hd2)
    clear OA OB OK ON KW DC hs
    go_wp2
    go_ret
    exact ⟨s, by omega, rfl, hd2.out.mono (by omega)⟩
  · go_wp2_with fail
    refine (ON q1 w1 hR1.out (by omega)).out.mono ?_
    rintro e w2 ⟨s, hs, rfl, hd2⟩
    obtain ⟨n, hn, rfl⟩ := someN_le s hs
    replace hd2 := Lib.hid (hd1.out.trans hd2)
    clear OA OB OK ON KW hs
    go_wp2_with fail
    refine (DC n w2 (by omega)).out.mono ?_
    rintro e w3 ⟨s, hs, rfl, hb3⟩
    replace hb3 := Lib.hid hb3
    clear DC
    go_wp2
    go_ret
    obtain ⟨q2, hq2, hR2⟩ := hd2.out.1
    exact ⟨s, by omega, rfl, (hd2.out.trans (Drew.of_below hR2 hb3.out)).mono (by omega)⟩
  · go_wp2_with fail
    refine (KW w1).out.mono ?_
    rintro e w2 ⟨rfl, hw2⟩
    rw [hw2]
    clear hw2
    go_wp2_with fail
    refine (OK q1 w1 hR1.out (by omega)).out.mono ?_
    rintro e w2 ⟨s, hs, rfl, hd2⟩
    have hz := keyS_le s hs
    replace hd2 := Lib.hid (hd1.out.trans hd2)
    clear OA OB OK ON KW DC hs
    go_wp2
    go_ret
    exact ⟨s, by omega, rfl, hd2.out.mono (by omega)⟩
  · have e0 : ((r : Int) == 0) = false := by rw [beq_eq_false_iff_ne]; omega
    have e1 : ((r : Int) == 1) = false := by rw [beq_eq_false_iff_ne]; omega
    have e2 : ((r : Int) == 2) = false := by rw [beq_eq_false_iff_ne]; omega
    clear hr34
    go_wp2_with fail
    refine (OB q1 w1 hR1.out (by omega)).out.mono ?_
    rintro e w2 ⟨s, hs, rfl, hd2⟩
    have hz := someB_le s hs
    replace hd2 := Lib.hid (hd1.out.trans hd2)
    clear OA OB OK ON KW DC hs
    go_wp2
    go_ret
    exact ⟨s, by omega, rfl, hd2.out.mono (by omega)⟩

def badA : List ByteArray := [⟨#[97, 98, 99, 100, 101]⟩, ⟨#[50, 53, 54]⟩, ⟨#[48, 49]⟩, ⟨#[48, 48]⟩, ⟨#[63]⟩, ⟨#[65]⟩, ⟨#[9]⟩, ⟨#[36]⟩, ⟨#[120, 95, 121]⟩, ⟨#[]⟩]
theorem badA_le : ∀ s ∈ badA, s.size ≤ 9 := by decide
set_option maxHeartbeats 2000000 in
theorem l1Bad_any (R p : Nat) (w : World) (h : Rd w R p) (hp : p ≤ 800000) :
    Calls Tryz.prog 83 #[.pointer (some ⟨R, 0, none⟩)] w (TextDrawn R (p + 3) 300 w) := by
  have PK := Lib.hid (pick_drew R p 10 w h (by omega) (by omega) (by omega))
  have OA := fun q W hR hq => Lib.hid (of_lit R q badA W 9 (0, 0) hR hq (by decide) (by decide))
  have SM := fun q W hR hq => Lib.hid (l1Some_any R q W hR hq)
  clear h
  go_enter Tryz.func83, Tryz.ntmps83
  go_wp2_with fail
  refine PK.out.mono ?_
  rintro e w1 ⟨r, hr, rfl, hd1⟩
  obtain ⟨q1, hq1, hR1⟩ := hd1.1
  replace hd1 := Lib.hid hd1
  replace hR1 := Lib.hid hR1
  clear PK
  by_cases h0 : r = 0
  · subst h0
    go_wp2_with fail
    refine (OA q1 w1 hR1.out (by omega)).out.mono ?_
    rintro e w2 ⟨s, hs, rfl, hd2⟩
    have hz := badA_le s hs
    replace hd2 := Lib.hid (hd1.out.trans hd2)
    clear OA SM hs
    go_wp2
    go_ret
    exact ⟨s, by omega, rfl, hd2.out.mono (by omega)⟩
  · have e0 : ((r : Int) == 0) = false := by rw [beq_eq_false_iff_ne]; omega
    clear h0
    go_wp2_with fail
    refine (SM q1 w1 hR1.out (by omega)).out.mono ?_
    rintro e w2 ⟨s, hs, rfl, hd2⟩
    replace hd2 := Lib.hid (hd1.out.trans hd2)
    clear OA SM
    go_wp2
    go_ret
    exact ⟨s, hs, rfl, hd2.out.mono (by omega)⟩
end Go.Proofs.YtkhcfhhejmkikaaGreatDoor

namespace Go.Proofs.YtkhcfhhejmkikaaGreatDoor
open Go.RowKit
set_option maxRecDepth 100000

def textA : List ByteArray := [⟨#[]⟩, ⟨#[]⟩, ⟨#[32]⟩, ⟨#[10, 32]⟩]
def textB : List ByteArray := [⟨#[32]⟩, ⟨#[32]⟩, ⟨#[32]⟩, ⟨#[32, 32]⟩, ⟨#[10]⟩, ⟨#[]⟩]
def textN : List Int := [3, 6, 10, 1, 0, 20]
def textM : List Int := [600, 601]
def textL : List Int := [0, 2399, 2400, 2401]
theorem textA_le : ∀ s ∈ textA, s.size ≤ 9 := by decide
theorem textB_le : ∀ s ∈ textB, s.size ≤ 9 := by decide
theorem nat_of (s : Int) (m : Nat) (h : 0 ≤ s ∧ s ≤ m) : ∃ n : Nat, n ≤ m ∧ s = (n : Int) := ⟨s.toNat, by omega, by omega⟩
theorem textN_le : ∀ s ∈ textN, 0 ≤ s ∧ s ≤ (20 : Nat) := by decide
theorem textM_le : ∀ s ∈ textM, 0 ≤ s ∧ s ≤ (601 : Nat) := by decide
theorem textL_le : ∀ s ∈ textL, 0 ≤ s ∧ s ≤ (2401 : Nat) := by decide

set_option maxHeartbeats 4000000 in
theorem l1Text_any (R p : Nat) (w : World) (h : Rd w R p) (hp : p ≤ 700000) :
    Calls Tryz.prog 47 #[.pointer (some ⟨R, 0, none⟩)] w (TextDrawn R (p + 200) 7000 w) := by
  have OA := fun q W hR hq => Lib.hid (of_lit R q textA W 9 (0, 0) hR hq (by decide) (by decide))
  have OB := fun q W hR hq => Lib.hid (of_lit R q textB W 9 (0, 0) hR hq (by decide) (by decide))
  have ON := fun q W hR hq => Lib.hid (num_lit R q textN W 3 (0, 0) hR hq (by decide) (by decide))
  have OM := fun q W hR hq => Lib.hid (num_lit R q textM W 3 (0, 0) hR hq (by decide) (by decide))
  have OL := fun q W hR hq => Lib.hid (num_lit R q textL W 3 (0, 0) hR hq (by decide) (by decide))
  have PK := fun n q W hR hq h1 h2 => Lib.hid (pick_drew R q n W hR hq h1 h2)
  have SM := fun q W hR hq => Lib.hid (l1Some_any R q W hR hq)
  have BD := fun q W hR hq => Lib.hid (l1Bad_any R q W hR hq)
  have MN := fun s n W hs hn => Lib.hid (l30Many_any s n W hs hn)
  go_enter Tryz.func47, Tryz.ntmps47
  go_wp2_with fail
  refine (OA p w h (by omega)).out.mono ?_
  rintro e w1 ⟨s, hs, rfl, hd1⟩
  have hz := textA_le s hs
  obtain ⟨q1, hq1, hR1⟩ := hd1.1
  replace hd1 := Lib.hid hd1
  replace hR1 := Lib.hid hR1
  clear OA hs h
  go_wp2_with fail
  refine (PK 4 q1 w1 hR1.out (by omega) (by omega) (by omega)).out.mono ?_
  rintro e w2 ⟨r, hr, rfl, hd2⟩
  obtain ⟨q2, hq2, hR2⟩ := hd2.1
  replace hd2 := Lib.hid (hd1.out.trans hd2)
  replace hR2 := Lib.hid hR2
  clear hd1 hR1
  have hbad : ∃ bad : Bool, ((r : Int) == 0) = bad := ⟨_, rfl⟩
  obtain ⟨bad, hbad⟩ := hbad
  go_wp2_with fail
  refine (ON q2 w2 hR2.out (by omega)).out.mono ?_
  rintro e w3 ⟨s3, hs3, rfl, hd3⟩
  obtain ⟨n, hn, rfl⟩ := nat_of s3 20 (textN_le s3 hs3)
  obtain ⟨q3, hq3, hR3⟩ := hd3.1
  replace hd3 := Lib.hid (hd2.out.trans hd3)
  replace hR3 := Lib.hid hR3
  clear hd2 hR2 ON hs3 hbad
  go_wp2
  go_loopw [3, 5] (fun o i wr => ∃ (k : Nat) (out : ByteArray), k ≤ 20 ∧ i = .int .i64 k ∧ o = .string out ∧ out.size ≤ 9 + 309 * (20 - k) ∧ Drew R (p + 3 + 5 * (20 - k)) w wr) (fun _ i _ => (intOf i).toNat)
  case atStart => exact ⟨n, s, hn, rfl, rfl, by omega, hd3.out.mono (by omega)⟩
  case round =>
    clear hd3 hR3
    obtain ⟨k, out, hk, rfl, rfl, ho, hd⟩ := hrel
    obtain ⟨q, hq, hR⟩ := hd.1
    replace hd := Lib.hid hd
    replace hR := Lib.hid hR
    by_cases h0 : 0 < k
    · clear OM OL MN PK
      cases bad
      · clear BD
        go_wp2_with fail
        refine (SM q wr hR.out (by omega)).out.mono ?_
        rintro e w4 ⟨t, ht, rfl, hd4⟩
        obtain ⟨q4, hq4, hR4⟩ := hd4.1
        replace hd4 := Lib.hid (hd.out.trans hd4)
        replace hR4 := Lib.hid hR4
        clear hd hR SM
        go_wp2_with fail
        refine (OB q4 w4 hR4.out (by omega)).out.mono ?_
        rintro e w5 ⟨t5, ht5, rfl, hd5⟩
        have hz5 := textB_le t5 ht5
        replace hd5 := Lib.hid (hd4.out.trans hd5)
        clear hd4 hR4 OB ht5
        go_wp2
        go_roundw
        case rel => exact ⟨k - 1, _, by omega, by go_num, rfl, by rw [ByteArray.size_append, ByteArray.size_append]; omega, hd5.out.mono (by omega)⟩
        case measure => simp only [intOf]; omega
      · clear SM
        go_wp2_with fail
        refine (BD q wr hR.out (by omega)).out.mono ?_
        rintro e w4 ⟨t, ht, rfl, hd4⟩
        obtain ⟨q4, hq4, hR4⟩ := hd4.1
        replace hd4 := Lib.hid (hd.out.trans hd4)
        replace hR4 := Lib.hid hR4
        clear hd hR BD
        go_wp2_with fail
        refine (OB q4 w4 hR4.out (by omega)).out.mono ?_
        rintro e w5 ⟨t5, ht5, rfl, hd5⟩
        have hz5 := textB_le t5 ht5
        replace hd5 := Lib.hid (hd4.out.trans hd5)
        clear hd4 hR4 OB ht5
        go_wp2
        go_roundw
        case rel => exact ⟨k - 1, _, by omega, by go_num, rfl, by rw [ByteArray.size_append, ByteArray.size_append]; omega, hd5.out.mono (by omega)⟩
        case measure => simp only [intOf]; omega
    · obtain rfl : k = 0 := by omega
      clear SM BD OB h0
      go_wp2_with fail
      refine (PK 60 q wr hR.out (by omega) (by omega) (by omega)).out.mono ?_
      rintro e w4 ⟨r4, hr4, rfl, hd4⟩
      obtain ⟨q4, hq4, hR4⟩ := hd4.1
      replace hd4 := Lib.hid (hd.out.trans hd4)
      replace hR4 := Lib.hid hR4
      clear hd hR PK
      by_cases h1 : r4 = 0
      · subst h1
        go_wp2_with fail
        refine (OM q4 w4 hR4.out (by omega)).out.mono ?_
        rintro e w5 ⟨s5, hs5, rfl, hd5⟩
        obtain ⟨n5, hn5, rfl⟩ := nat_of s5 601 (textM_le s5 hs5)
        replace hd5 := Lib.hid (hd4.out.trans hd5)
        clear hd4 hR4 OM hs5
        go_wp2_with fail
        refine (MN ⟨#[59]⟩ n5 w5 (by decide) (by omega)).out.mono ?_
        rintro e w6 ⟨t6, ht6, rfl, hb6⟩
        obtain ⟨q5, hq5, hR5⟩ := hd5.out.1
        have hd6 := Drew.of_below hR5 hb6
        obtain ⟨q6, hq6, hR6⟩ := hd6.1
        replace hd6 := Lib.hid (hd5.out.trans hd6)
        replace hR6 := Lib.hid hR6
        replace ht6 : t6.size ≤ 1 * n5 := ht6
        clear hd5 hR5 hb6
        go_wp2_with fail
        refine (OL q6 w6 hR6.out (by omega)).out.mono ?_
        rintro e w7 ⟨s7, hs7, rfl, hd7⟩
        obtain ⟨n7, hn7, rfl⟩ := nat_of s7 2401 (textL_le s7 hs7)
        replace hd7 := Lib.hid (hd6.out.trans hd7)
        clear hd6 hR6 OL hs7
        go_wp2_with fail
        refine (MN ⟨#[32]⟩ n7 w7 (by decide) (by omega)).out.mono ?_
        rintro e w8 ⟨t8, ht8, rfl, hb8⟩
        obtain ⟨q7, hq7, hR7⟩ := hd7.out.1
        have hd8 := Drew.of_below hR7 hb8
        replace hd8 := Lib.hid (hd7.out.trans hd8)
        replace ht8 : t8.size ≤ 1 * n7 := ht8
        clear hd7 hR7 hb8 MN
        go_wp2
        go_ret
        exact ⟨_, by rw [ByteArray.size_append]; omega, rfl, hd8.out.mono (by omega)⟩
      · have e0 : ((r4 : Int) == 0) = false := by rw [beq_eq_false_iff_ne]; omega
        clear h1 OM OL MN
        go_wp2
        go_ret
        exact ⟨out, by omega, rfl, hd4.out.mono (by omega)⟩

/-- What the drawers of texts give to a law. -/
def TextDraw (w : World) (e : Ending) (w' : World) : Prop := ∃ s : ByteArray, s.size ≤ 7000 ∧ e = .returned (.string s) ∧ Below w.heap.size w w'
end Go.Proofs.YtkhcfhhejmkikaaGreatDoor

namespace Go.Proofs.YtkhcfhhejmkikaaGreatDoor
open Go.RowKit
set_option maxRecDepth 100000

def AllIs (b : UInt8) (t : ByteArray) : Prop := ∀ x ∈ t.data.toList, x = b
theorem AllIs.app {b : UInt8} {t u : ByteArray} (h : AllIs b t) (h' : AllIs b u) : AllIs b (t ++ u) := by
  intro x hx
  rw [show (t ++ u).data.toList = t.data.toList ++ u.data.toList by simp] at hx
  rcases List.mem_append.1 hx with hx | hx
  · exact h x hx
  · exact h' x hx
theorem AllIs.one (b : UInt8) : AllIs b ⟨#[b]⟩ := by
  intro x hx
  simpa using hx
theorem AllIs.nil (b : UInt8) : AllIs b ⟨#[]⟩ := fun x hx => by simp at hx
theorem AllIs.front {b : UInt8} {t u : ByteArray} (h : AllIs b t) (h0 : 0 < t.size) : ∃ r, (t ++ u).data.toList = b :: r := by
  have e : (t ++ u).data.toList = t.data.toList ++ u.data.toList := by simp
  cases hl : t.data.toList with
  | nil =>
    have : t.data.toList.length = 0 := by rw [hl]; rfl
    have h2 : t.data.toList.length = t.size := by simp
    omega
  | cons x r =>
    have hx := h x (by rw [hl]; simp)
    subst hx
    exact ⟨r ++ u.data.toList, by rw [e, hl]; rfl⟩
theorem dec_four {n : Nat} (h : n ≤ 255) : (decS n).size ≤ 4 := by
  have := validB_size (valid_num (n : Int) (by omega) (by omega))
  simpa using this
set_option maxHeartbeats 2000000 in
theorem l30Many_F (b : UInt8) (n : Nat) (w : World) (hn : n ≤ 10000) :
    Calls Tryz.prog 51 #[.string ⟨#[b]⟩, .int .i64 (n : Int)] w fun e w' => ∃ t : ByteArray, t.size ≤ n ∧ AllIs b t ∧ (0 < n → 0 < t.size) ∧ e = .returned (.string t) ∧ Below w.heap.size w w' := by
  generalize hMe : n = M at hn
  have A1 := Lib.hid (AllIs.one b)
  have hs : (⟨#[b]⟩ : ByteArray).size = 1 := rfl
  generalize hse : (⟨#[b]⟩ : ByteArray) = s at *
  go_enter Tryz.func51, Tryz.ntmps51
  go_wp2
  go_loopw [0, 1, 5] (fun x i o wr => ∃ (k : Nat) (t out : ByteArray), i = .int .i64 k ∧ x = .string t ∧ o = .string out ∧ k ≤ 10000 ∧ out.size + t.size * k ≤ M ∧ t.size ≤ 2 * M + 16 ∧ 0 < t.size ∧ AllIs b t ∧ AllIs b out ∧ (0 < M → 0 < k ∨ 0 < out.size) ∧ Below w.heap.size w wr) (fun _ i _ _ => (intOf i).toNat)
  case atStart => exact ⟨M, s, ⟨#[]⟩, rfl, rfl, rfl, by omega, by rw [hs]; show 0 + 1 * M ≤ M; omega, by omega, by omega, A1.out, AllIs.nil b, fun h => .inl (by omega), Below.refl _ _⟩
  case round =>
    obtain ⟨k, t, out, rfl, rfl, rfl, hk, hm, ht, ht0, hat, hao, hpo, hb⟩ := hrel
    have HAT := Lib.hid hat
    have HAO := Lib.hid hao
    have HPO := Lib.hid hpo
    clear hMe hat hao hpo A1 hs hse
    by_cases h0 : 0 < k
    · by_cases h1 : k % 2 = 1
      · have st := many_step t.size k (k / 2) out.size M (by omega) hm
        have HST := Lib.hid st.1
        have s2 := st.2.1
        have s3 := st.2.2
        clear st hm
        go_wp2
        go_ways
        all_goals try (exfalso; omega)
        go_roundw
        case rel => exact ⟨k / 2, _, _, by go_num, rfl, rfl, by omega, by rw [ByteArray.size_append, ByteArray.size_append]; exact HST.out, by rw [ByteArray.size_append]; omega, by rw [ByteArray.size_append]; omega, HAT.out.app HAT.out, HAO.out.app HAT.out, fun _ => .inr (by rw [ByteArray.size_append]; omega), hb⟩
        case measure => simp only [intOf]; omega
      · have st := many_even t.size k (k / 2) out.size M (by omega) h0 hm
        have HST := Lib.hid st.1
        have s3 := st.2
        clear st hm
        go_wp2
        go_ways
        all_goals try (exfalso; omega)
        go_roundw
        case rel => exact ⟨k / 2, _, _, by go_num, rfl, rfl, by omega, by rw [ByteArray.size_append]; exact HST.out, by rw [ByteArray.size_append]; omega, by rw [ByteArray.size_append]; omega, HAT.out.app HAT.out, HAO.out, fun h => (HPO.out h).elim (fun h => .inl (by omega)) .inr, hb⟩
        case measure => simp only [intOf]; omega
    · obtain rfl : k = 0 := by omega
      go_wp2
      go_ret
      exact ⟨out, by omega, HAO.out, fun h => (HPO.out (by omega)).elim (fun h => by omega) id, rfl, hb⟩

set_option maxHeartbeats 2000000 in
theorem l1Some_F (R p : Nat) (w : World) (h : Rd w R p) (hp : p ≤ 900000) :
    Calls Tryz.prog 84 #[.pointer (some ⟨R, 0, none⟩)] w (TextDrawn R (p + 2) 9 w) := by
  have PK := Lib.hid (pick_drew R p 5 w h (by omega) (by omega) (by omega))
  have OA := fun q W hR hq => Lib.hid (of_lit R q someA W 9 (0, 0) hR hq (by decide) (by decide))
  have OB := fun q W hR hq => Lib.hid (of_lit R q someB W 9 (0, 0) hR hq (by decide) (by decide))
  have OK := fun q W hR hq => Lib.hid (of_lit R q keyS W 9 (0, 0) hR hq (by decide) (by decide))
  have ON := fun q W hR hq => Lib.hid (num_lit R q someN W 3 (0, 0) hR hq (by decide) (by decide))
  have KW := fun W => Lib.hid (specKeyWords_any W)
  have DC := fun n W hn => Lib.hid (l30Dec_exact n W hn)
  clear h
  go_enter Tryz.func84, Tryz.ntmps84
  go_wp2_with fail
  refine PK.out.mono ?_
  rintro e w1 ⟨r, hr, rfl, hd1⟩
  obtain ⟨q1, hq1, hR1⟩ := hd1.1
  replace hd1 := Lib.hid hd1
  replace hR1 := Lib.hid hR1
  clear PK
  have hcase : r = 0 ∨ r = 1 ∨ r = 2 ∨ r = 3 ∨ r = 4 := by omega
  rcases hcase with rfl | rfl | rfl | hr34
  · go_wp2_with fail
    refine (OA q1 w1 hR1.out (by omega)).out.mono ?_
    rintro e w2 ⟨s, hs, rfl, hd2⟩
    have hz := someA_le s hs
    replace hd2 := Lib.hid (hd1.out.trans hd2)
    clear OA OB OK ON KW DC hs
    go_wp2
    go_ret
    exact ⟨s, by omega, rfl, hd2.out.mono (by omega)⟩
  · go_wp2_with fail
    refine (ON q1 w1 hR1.out (by omega)).out.mono ?_
    rintro e w2 ⟨s, hs, rfl, hd2⟩
    obtain ⟨n, hn, rfl⟩ := someN_le s hs
    replace hd2 := Lib.hid (hd1.out.trans hd2)
    clear OA OB OK ON KW hs
    go_wp2_with fail
    refine (DC n w2 (by omega)).out.mono ?_
    rintro e w3 ⟨rfl, hb3⟩
    have hs9 := dec_four hn
    generalize decS n = s at *
    replace hb3 := Lib.hid hb3
    clear DC
    go_wp2
    go_ret
    obtain ⟨q2, hq2, hR2⟩ := hd2.out.1
    exact ⟨s, by omega, rfl, (hd2.out.trans (Drew.of_below hR2 hb3.out)).mono (by omega)⟩
  · go_wp2_with fail
    refine (KW w1).out.mono ?_
    rintro e w2 ⟨rfl, hw2⟩
    rw [hw2]
    clear hw2
    go_wp2_with fail
    refine (OK q1 w1 hR1.out (by omega)).out.mono ?_
    rintro e w2 ⟨s, hs, rfl, hd2⟩
    have hz := keyS_le s hs
    replace hd2 := Lib.hid (hd1.out.trans hd2)
    clear OA OB OK ON KW DC hs
    go_wp2
    go_ret
    exact ⟨s, by omega, rfl, hd2.out.mono (by omega)⟩
  · have e0 : ((r : Int) == 0) = false := by rw [beq_eq_false_iff_ne]; omega
    have e1 : ((r : Int) == 1) = false := by rw [beq_eq_false_iff_ne]; omega
    have e2 : ((r : Int) == 2) = false := by rw [beq_eq_false_iff_ne]; omega
    clear hr34
    go_wp2_with fail
    refine (OB q1 w1 hR1.out (by omega)).out.mono ?_
    rintro e w2 ⟨s, hs, rfl, hd2⟩
    have hz := someB_le s hs
    replace hd2 := Lib.hid (hd1.out.trans hd2)
    clear OA OB OK ON KW DC hs
    go_wp2
    go_ret
    exact ⟨s, by omega, rfl, hd2.out.mono (by omega)⟩

set_option maxHeartbeats 2000000 in
theorem l1Bad_F (R p : Nat) (w : World) (h : Rd w R p) (hp : p ≤ 800000) :
    Calls Tryz.prog 83 #[.pointer (some ⟨R, 0, none⟩)] w (TextDrawn R (p + 3) 9 w) := by
  have PK := Lib.hid (pick_drew R p 10 w h (by omega) (by omega) (by omega))
  have OA := fun q W hR hq => Lib.hid (of_lit R q badA W 9 (0, 0) hR hq (by decide) (by decide))
  have SM := fun q W hR hq => Lib.hid (l1Some_F R q W hR hq)
  clear h
  go_enter Tryz.func83, Tryz.ntmps83
  go_wp2_with fail
  refine PK.out.mono ?_
  rintro e w1 ⟨r, hr, rfl, hd1⟩
  obtain ⟨q1, hq1, hR1⟩ := hd1.1
  replace hd1 := Lib.hid hd1
  replace hR1 := Lib.hid hR1
  clear PK
  by_cases h0 : r = 0
  · subst h0
    go_wp2_with fail
    refine (OA q1 w1 hR1.out (by omega)).out.mono ?_
    rintro e w2 ⟨s, hs, rfl, hd2⟩
    have hz := badA_le s hs
    replace hd2 := Lib.hid (hd1.out.trans hd2)
    clear OA SM hs
    go_wp2
    go_ret
    exact ⟨s, by omega, rfl, hd2.out.mono (by omega)⟩
  · have e0 : ((r : Int) == 0) = false := by rw [beq_eq_false_iff_ne]; omega
    clear h0
    go_wp2_with fail
    refine (SM q1 w1 hR1.out (by omega)).out.mono ?_
    rintro e w2 ⟨s, hs, rfl, hd2⟩
    replace hd2 := Lib.hid (hd1.out.trans hd2)
    clear OA SM
    go_wp2
    go_ret
    exact ⟨s, hs, rfl, hd2.out.mono (by omega)⟩
theorem textB_two : ∀ s ∈ textB, s.size ≤ 2 := by decide
theorem textM_lo : ∀ s ∈ textM, 600 ≤ s := by decide
def TextDrawnF (R p : Nat) (w : World) (e : Ending) (w' : World) : Prop := ∃ s : ByteArray, s.size ≤ 7000 ∧ (s.size ≤ 249 ∨ ∃ r, s.data.toList = 59 :: r) ∧ e = .returned (.string s) ∧ Drew R p w w'
set_option maxHeartbeats 4000000 in
theorem l1Text_F (R p : Nat) (w : World) (h : Rd w R p) (hp : p ≤ 700000) :
    Calls Tryz.prog 47 #[.pointer (some ⟨R, 0, none⟩)] w (TextDrawnF R (p + 200) w) := by
  have OA := fun q W hR hq => Lib.hid (of_lit R q textA W 9 (0, 0) hR hq (by decide) (by decide))
  have OB := fun q W hR hq => Lib.hid (of_lit R q textB W 9 (0, 0) hR hq (by decide) (by decide))
  have ON := fun q W hR hq => Lib.hid (num_lit R q textN W 3 (0, 0) hR hq (by decide) (by decide))
  have OM := fun q W hR hq => Lib.hid (num_lit R q textM W 3 (0, 0) hR hq (by decide) (by decide))
  have OL := fun q W hR hq => Lib.hid (num_lit R q textL W 3 (0, 0) hR hq (by decide) (by decide))
  have PK := fun n q W hR hq h1 h2 => Lib.hid (pick_drew R q n W hR hq h1 h2)
  have SM := fun q W hR hq => Lib.hid (l1Some_F R q W hR hq)
  have BD := fun q W hR hq => Lib.hid (l1Bad_F R q W hR hq)
  have MN := fun b n W hn => Lib.hid (l30Many_F b n W hn)
  go_enter Tryz.func47, Tryz.ntmps47
  go_wp2_with fail
  refine (OA p w h (by omega)).out.mono ?_
  rintro e w1 ⟨s, hs, rfl, hd1⟩
  have hz := textA_le s hs
  obtain ⟨q1, hq1, hR1⟩ := hd1.1
  replace hd1 := Lib.hid hd1
  replace hR1 := Lib.hid hR1
  clear OA hs h
  go_wp2_with fail
  refine (PK 4 q1 w1 hR1.out (by omega) (by omega) (by omega)).out.mono ?_
  rintro e w2 ⟨r, hr, rfl, hd2⟩
  obtain ⟨q2, hq2, hR2⟩ := hd2.1
  replace hd2 := Lib.hid (hd1.out.trans hd2)
  replace hR2 := Lib.hid hR2
  clear hd1 hR1
  have hbad : ∃ bad : Bool, ((r : Int) == 0) = bad := ⟨_, rfl⟩
  obtain ⟨bad, hbad⟩ := hbad
  go_wp2_with fail
  refine (ON q2 w2 hR2.out (by omega)).out.mono ?_
  rintro e w3 ⟨s3, hs3, rfl, hd3⟩
  obtain ⟨n, hn, rfl⟩ := nat_of s3 20 (textN_le s3 hs3)
  obtain ⟨q3, hq3, hR3⟩ := hd3.1
  replace hd3 := Lib.hid (hd2.out.trans hd3)
  replace hR3 := Lib.hid hR3
  clear hd2 hR2 ON hs3 hbad
  go_wp2
  go_loopw [3, 5] (fun o i wr => ∃ (k : Nat) (out : ByteArray), k ≤ 20 ∧ i = .int .i64 k ∧ o = .string out ∧ out.size ≤ 9 + 12 * (20 - k) ∧ Drew R (p + 3 + 5 * (20 - k)) w wr) (fun _ i _ => (intOf i).toNat)
  case atStart => exact ⟨n, s, hn, rfl, rfl, by omega, hd3.out.mono (by omega)⟩
  case round =>
    clear hd3 hR3
    obtain ⟨k, out, hk, rfl, rfl, ho, hd⟩ := hrel
    obtain ⟨q, hq, hR⟩ := hd.1
    replace hd := Lib.hid hd
    replace hR := Lib.hid hR
    by_cases h0 : 0 < k
    · clear OM OL MN PK
      cases bad
      · clear BD
        go_wp2_with fail
        refine (SM q wr hR.out (by omega)).out.mono ?_
        rintro e w4 ⟨t, ht, rfl, hd4⟩
        obtain ⟨q4, hq4, hR4⟩ := hd4.1
        replace hd4 := Lib.hid (hd.out.trans hd4)
        replace hR4 := Lib.hid hR4
        clear hd hR SM
        go_wp2_with fail
        refine (OB q4 w4 hR4.out (by omega)).out.mono ?_
        rintro e w5 ⟨t5, ht5, rfl, hd5⟩
        have hz5 := textB_two t5 ht5
        replace hd5 := Lib.hid (hd4.out.trans hd5)
        clear hd4 hR4 OB ht5
        go_wp2
        go_roundw
        case rel => exact ⟨k - 1, _, by omega, by go_num, rfl, by rw [ByteArray.size_append, ByteArray.size_append]; omega, hd5.out.mono (by omega)⟩
        case measure => simp only [intOf]; omega
      · clear SM
        go_wp2_with fail
        refine (BD q wr hR.out (by omega)).out.mono ?_
        rintro e w4 ⟨t, ht, rfl, hd4⟩
        obtain ⟨q4, hq4, hR4⟩ := hd4.1
        replace hd4 := Lib.hid (hd.out.trans hd4)
        replace hR4 := Lib.hid hR4
        clear hd hR BD
        go_wp2_with fail
        refine (OB q4 w4 hR4.out (by omega)).out.mono ?_
        rintro e w5 ⟨t5, ht5, rfl, hd5⟩
        have hz5 := textB_two t5 ht5
        replace hd5 := Lib.hid (hd4.out.trans hd5)
        clear hd4 hR4 OB ht5
        go_wp2
        go_roundw
        case rel => exact ⟨k - 1, _, by omega, by go_num, rfl, by rw [ByteArray.size_append, ByteArray.size_append]; omega, hd5.out.mono (by omega)⟩
        case measure => simp only [intOf]; omega
    · obtain rfl : k = 0 := by omega
      clear SM BD OB h0
      go_wp2_with fail
      refine (PK 60 q wr hR.out (by omega) (by omega) (by omega)).out.mono ?_
      rintro e w4 ⟨r4, hr4, rfl, hd4⟩
      obtain ⟨q4, hq4, hR4⟩ := hd4.1
      replace hd4 := Lib.hid (hd.out.trans hd4)
      replace hR4 := Lib.hid hR4
      clear hd hR PK
      by_cases h1 : r4 = 0
      · subst h1
        go_wp2_with fail
        refine (OM q4 w4 hR4.out (by omega)).out.mono ?_
        rintro e w5 ⟨s5, hs5, rfl, hd5⟩
        have h5lo := textM_lo s5 hs5
        obtain ⟨n5, hn5, rfl⟩ := nat_of s5 601 (textM_le s5 hs5)
        have h5p : 0 < n5 := by omega
        clear h5lo
        replace hd5 := Lib.hid (hd4.out.trans hd5)
        clear hd4 hR4 OM hs5
        go_wp2_with fail
        refine (MN 59 n5 w5 (by omega)).out.mono ?_
        rintro e w6 ⟨t6, ht6, ha6, hp6, rfl, hb6⟩
        have HA6 := Lib.hid (fun u => AllIs.front (u := u) ha6 (hp6 h5p))
        clear ha6 hp6
        obtain ⟨q5, hq5, hR5⟩ := hd5.out.1
        have hd6 := Drew.of_below hR5 hb6
        obtain ⟨q6, hq6, hR6⟩ := hd6.1
        replace hd6 := Lib.hid (hd5.out.trans hd6)
        replace hR6 := Lib.hid hR6
        clear hd5 hR5 hb6
        go_wp2_with fail
        refine (OL q6 w6 hR6.out (by omega)).out.mono ?_
        rintro e w7 ⟨s7, hs7, rfl, hd7⟩
        obtain ⟨n7, hn7, rfl⟩ := nat_of s7 2401 (textL_le s7 hs7)
        replace hd7 := Lib.hid (hd6.out.trans hd7)
        clear hd6 hR6 OL hs7
        go_wp2_with fail
        refine (MN 32 n7 w7 (by omega)).out.mono ?_
        rintro e w8 ⟨t8, ht8, _, _, rfl, hb8⟩
        obtain ⟨q7, hq7, hR7⟩ := hd7.out.1
        have hd8 := Drew.of_below hR7 hb8
        replace hd8 := Lib.hid (hd7.out.trans hd8)
        clear hd7 hR7 hb8 MN
        go_wp2
        go_ret
        exact ⟨_, by rw [ByteArray.size_append]; omega, .inr (HA6.out t8), rfl, hd8.out.mono (by omega)⟩
      · have e0 : ((r4 : Int) == 0) = false := by rw [beq_eq_false_iff_ne]; omega
        clear h1 OM OL MN
        go_wp2
        go_ret
        exact ⟨out, by omega, .inl (by omega), rfl, hd4.out.mono (by omega)⟩
end Go.Proofs.YtkhcfhhejmkikaaGreatDoor
