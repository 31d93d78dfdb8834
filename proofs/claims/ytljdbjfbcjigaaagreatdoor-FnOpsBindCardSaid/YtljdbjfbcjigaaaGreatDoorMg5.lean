/-
  JoinWords: the model's and the program's join the same words to the same text.
-/
import Derived.Test.YtljdbjfbcjigaaaGreatDoorMg1
import Derived.Test.YtljdbjfbcjigaaaGreatDoorMg3
import Derived.Test.YtljdbjfbcjigaaaGreatDoorMg4
import Derived.Lib.ItoaNum
import Derived.Laws.BytesArg
import Derived.Lib.Join
namespace Go.Proofs.YtljdbjfbcjigaaaGreatDoor
open Go.RowKit
set_option maxRecDepth 100000

/-- The mark of a number. -/
def markB (k : Nat) : ByteArray := ⟨(109 :: Lib.decDigits k).toArray⟩
/-- Behind some rounds: what is left of the number, and what is written. -/
def markRel (k0 k : Nat) (out : ByteArray) : Prop := (0 < k ∧ Lib.decDigits k0 = Lib.decDigits k ++ out.data.toList) ∨ (k = 0 ∧ out.data.toList = Lib.decDigits k0)

theorem conv_one (w : World) (n : Int) : (convert 50 9 (.slice (some ⟨w.heap.size, 0, none⟩) 1 1)).run Tryz.prog (w.alloc (.cells #[.int .u8 n] 5)) = .ok (.string ⟨#[UInt8.ofNat n.toNat]⟩) (w.alloc (.cells #[.int .u8 n] 5)) := by
  have h := run_convert_bytes_arg (P := Tryz.prog) (w.alloc (.cells #[.int .u8 n] 5)) 50 5 Tryz.underlying50 Tryz.underlying5 w.heap.size 0 1 1 [n] rfl (fun i hi => by
    obtain rfl : i = 0 := by omega
    exact alloc_cell w #[.int .u8 n] 5 (0, 0) 0) 9 Tryz.underlying9
  rw [h]
  rfl
theorem decDigits_step {n : Nat} (h : 0 < n) : Lib.decDigits n = (if n / 10 = 0 then [] else Lib.decDigits (n / 10)) ++ [UInt8.ofNat (48 + n % 10)] := by
  by_cases h10 : n < 10
  · have e1 : n / 10 = 0 := by omega
    have e2 : n % 10 = n := by omega
    rw [if_pos e1, e2, Lib.decDigits_one h10]; rfl
  · rw [if_neg (by omega), Lib.decDigits, dif_neg h10]
theorem markRel_succ {k0 n : Nat} {out : ByteArray} (h : markRel k0 n out) (hn : 0 < n) : markRel k0 (n / 10) ((⟨#[UInt8.ofNat (48 + n % 10)]⟩ : ByteArray) ++ out) := by
  rcases h with ⟨_, h⟩ | ⟨h, _⟩
  · rw [decDigits_step hn] at h
    by_cases e : n / 10 = 0
    · rw [if_pos e] at h
      right
      refine ⟨e, ?_⟩
      rw [h]
      simp
    · rw [if_neg e] at h
      left
      refine ⟨by omega, ?_⟩
      rw [h]
      simp
  · omega
theorem markRel_end {k0 : Nat} {out : ByteArray} (h : markRel k0 0 out) : (⟨#[109]⟩ : ByteArray) ++ out = markB k0 := by
  rcases h with ⟨h, _⟩ | ⟨_, h⟩
  · omega
  · unfold markB
    rw [← h]
    have : out = ⟨out.data.toList.toArray⟩ := by cases out; simp
    rw [this]
    rw [show (⟨#[109]⟩ : ByteArray) = ByteArray.mk [109].toArray from rfl, ByteArray.mk_append_mk]
    simp

set_option maxHeartbeats 1000000 in
theorem markText_any (k0 : Nat) (w : World) (h0 : 0 < k0) (h1 : k0 ≤ 1000000000) :
    Calls Tryz.prog 82 #[.int .i64 k0] w fun e w' => e = .returned (.string (markB k0)) ∧ Below w.heap.size w w' := by
  go_enter Tryz.func82, Tryz.ntmps82
  go_wp2
  go_loopw [0, 3] (fun k o wr => ∃ (n : Nat) (out : ByteArray), n ≤ k0 ∧ k = .int .i64 n ∧ o = .string out ∧ out.size + n ≤ k0 + 20 ∧ markRel k0 n out ∧ Below w.heap.size w wr) (fun k _ _ => (intOf k).toNat)
  case atStart => exact ⟨k0, ⟨#[]⟩, Nat.le_refl _, rfl, rfl, by show 0 + k0 ≤ k0 + 20; omega, .inl ⟨h0, by simp⟩, Below.refl _ _⟩
  case round =>
    obtain ⟨n, out, hn, rfl, rfl, ho, hrel, hb⟩ := hrel
    have HR := Lib.hid hrel
    clear hrel
    by_cases hpos : 0 < n
    · have hcv := conv_one wr (48 + (n : Int) % 10)
      have hx : ((48 + (n : Int) % 10).toNat) = 48 + n % 10 := by omega
      rw [hx] at hcv
      clear hx
      have HS := Lib.hid (markRel_succ HR.out hpos)
      have hlen : ((⟨#[UInt8.ofNat (48 + n % 10)]⟩ : ByteArray)).size = 1 := rfl
      have hout : out.size ≤ k0 + 20 := by omega
      generalize hdd : (⟨#[UInt8.ofNat (48 + n % 10)]⟩ : ByteArray) = d at *
      clear hdd
      have hd1 : d.size ≤ 1 := by omega
      have HL := Lib.hid hlen
      clear hlen
      have hb2 := hb.alloc hb.size (.cells #[.int .u8 (48 + (n : Int) % 10)] 5)
      clear hb
      go_wp2
      go_roundw
      case rel => exact ⟨n / 10, d ++ out, by omega, by go_num, rfl, by rw [ByteArray.size_append]; have := HL.out; omega, HS.out, hb2⟩
      case measure => simp only [intOf]; omega
    · obtain rfl : n = 0 := by omega
      clear hpos
      have HE := Lib.hid (markRel_end HR.out)
      have hout : out.size ≤ k0 + 20 := by omega
      go_wp2
      go_ret
      exact ⟨by rw [← HE.out]; rfl, hb⟩

/-- The post of a helper that writes marks. -/
def MarkRet (base e g n cap k0 : Nat) (w : World) (en : Ending) (w' : World) : Prop :=
  en = .returned (.int .i64 ((k0 + n : Nat) : Int)) ∧ (∃ xs', w'.ownsRow base e 1 (.slice (some ⟨g, 0, none⟩) n cap) n xs' ∧ ∀ j, j < n → xs'[j]? = some (.string (markB (k0 + j)))) ∧ Below base w w'

set_option maxHeartbeats 1000000 in
theorem markStringS_any (base e g n cap k0 : Nat) (xs : List Value) (w : World) (hown : w.ownsRow base e 1 (.slice (some ⟨g, 0, none⟩) n cap) n xs) (hbase : base ≤ w.heap.size) (hn : n ≤ 1000000) (h0 : 0 < k0) (h1 : k0 ≤ 1000000) :
    Calls Tryz.prog 89 #[.slice (some ⟨g, 0, none⟩) n cap, .int .i64 k0] w (MarkRet base e g n cap k0 w) := by
  have hg := hown.lt g rfl
  have HO := Lib.hid hown
  clear hown
  go_enter Tryz.func89, Tryz.ntmps89
  go_wp2
  go_loopw [1, 5] (fun m i wr => ∃ (k : Nat) (xs' : List Value), k ≤ n ∧ i = .int .i64 k ∧ m = .int .i64 ((k0 + k : Nat) : Int) ∧ wr.ownsRow base e 1 (.slice (some ⟨g, 0, none⟩) n cap) n xs' ∧ (∀ j, j < k → xs'[j]? = some (.string (markB (k0 + j)))) ∧ Below base w wr) (fun _ i _ => n - (intOf i).toNat)
  case atStart => exact ⟨0, xs, Nat.zero_le _, rfl, by simp, HO.out, fun j hj => absurd hj (by omega), Below.refl _ _⟩
  case round =>
    clear HO
    obtain ⟨k, xs', hk, rfl, rfl, hown, hall, hb⟩ := hrel
    by_cases hlt : k < n
    · have HA := Lib.hid hall
      clear hall
      have hxl := hown.1
      go_wp2_with fail
      refine (markText_any (k0 + k) _ (by omega) (by omega)).mono ?_
      rintro en w2 ⟨rfl, hb1⟩
      have hown2 := hown.kept (w' := w2) (row := none) ⟨hb1.os, hb1.tape, hb1.output, hb1.size, fun i hi _ => hb1.block i hi⟩ (by simp [Value.ownBlock])
      have hb2 := hb.trans (hb1.mono (show base ≤ wr.heap.size from Nat.le_trans hbase hb.size))
      clear hown hb hb1
      have d1 := hown2.cellAt k (by omega)
      have f1 := hown2.frozenAt k
      rw [List.getElem?_eq_getElem (by omega)] at d1
      generalize xs'[k] = y1 at *
      have HO := Lib.hid hown2
      clear hown2 hxl
      generalize hmb : markB (k0 + k) = mb at *
      have HM := Lib.hid hmb
      clear hmb
      go_wp2
      go_roundw
      case rel =>
        have hs := HO.out.stored k (.string mb)
        exact ⟨k + 1, _, by omega, by go_num, by go_num, hs.1, fun j hj => by
          rw [List.getElem?_set]
          by_cases ej : k = j
          · subst ej
            rw [if_pos rfl, if_pos (by have := HO.out.1; omega), HM.out]
          · rw [if_neg ej]; exact HA.out j (by omega), hb2.setCell hg.1 _⟩
      case measure => simp only [intOf]; omega
    · obtain rfl : k = n := by omega
      have HA := Lib.hid hall
      have HO := Lib.hid hown
      clear hall hown
      go_wp2
      go_ret
      exact ⟨rfl, ⟨xs', HO.out, HA.out⟩, hb⟩

end Go.Proofs.YtljdbjfbcjigaaaGreatDoor

namespace Go.Proofs.YtljdbjfbcjigaaaGreatDoor
open Go.RowKit
set_option maxRecDepth 100000

/-- A slice of texts that reads as a list; below block B. -/
def Strs (w : World) (B : Nat) (A : Option Addr) (ss : List ByteArray) : Prop :=
  ss ≠ [] → ∃ b o, A = some ⟨b, o, none⟩ ∧ b < B ∧ ∀ k, (h : k < ss.length) → w.cell? ⟨b, o + k, none⟩ = some (.string ss[k])
theorem Strs.at_ {w : World} {B : Nat} {A : Option Addr} {ss : List ByteArray} (h : Strs w B A ss) {k : Nat} (hk : k < ss.length) :
    ∃ b o, A = some ⟨b, o, none⟩ ∧ b < B ∧ w.cell? ⟨b, o + k, none⟩ = some (.string ss[k]) := by
  obtain ⟨b, o, e, hb, hc⟩ := h (by intro e; subst e; simp at hk)
  exact ⟨b, o, e, hb, hc k hk⟩
theorem Strs.below {w w' : World} {B : Nat} {A : Option Addr} {ss : List ByteArray} (h : Strs w B A ss) (hb : Below B w w') : Strs w' B A ss := by
  intro hne
  obtain ⟨b, o, e, hB, hc⟩ := h hne
  exact ⟨b, o, e, hB, fun k hk => (hb.cell (p := ⟨b, _, none⟩) hB).trans (hc k hk)⟩
theorem Strs.more {w : World} {B B' : Nat} {A : Option Addr} {ss : List ByteArray} (h : Strs w B A ss) (hB : B ≤ B') : Strs w B' A ss := by
  intro hne
  obtain ⟨b, o, e, hb, hc⟩ := h hne
  exact ⟨b, o, e, by omega, hc⟩

set_option maxHeartbeats 1000000 in
theorem eqStringS_any (A : Option Addr) (ss : List ByteArray) (cap : Nat) (A' : Option Addr) (ss' : List ByteArray) (cap' : Nat) (w : World) (hW : Strs w w.heap.size A ss) (hW' : Strs w w.heap.size A' ss') (hn : ss.length ≤ 140737488351232) (hn' : ss'.length ≤ 140737488351232) :
    Calls Tryz.prog 146 #[.slice A ss.length cap, .slice A' ss'.length cap'] w fun e w' => e = .returned (.bool (decide (ss = ss'))) ∧ Below w.heap.size w w' := by
  by_cases hl : ss.length = ss'.length
  · have e1 : ((ss.length : Int) == (ss'.length : Int)) = true := by rw [beq_iff_eq]; omega
    have e2 : ((ss.length : Int) != (ss'.length : Int)) = false := by rw [bne, e1]; rfl
    have HL := Lib.hid hl; clear hl
    go_enter Tryz.func146, Tryz.ntmps146
    go_wp2
    clear e1 e2
    go_loopw [5] (fun i wr => ∃ (k : Nat), k ≤ ss.length ∧ i = .int .i64 k ∧ (∀ j, (h : j < ss.length) → (h' : j < ss'.length) → j < k → ss[j] = ss'[j]) ∧ Below w.heap.size w wr) (fun i _ => ss.length - (intOf i).toNat)
    case atStart => exact ⟨0, Nat.zero_le _, rfl, fun j _ _ hj => absurd hj (by omega), Below.refl _ _⟩
    case round =>
      obtain ⟨k, hk, rfl, hall, hb⟩ := hrel
      by_cases hlt : k < ss.length
      · have hlt' : k < ss'.length := by have := HL.out; omega
        obtain ⟨b, o, rfl, hB, hc1⟩ := (hW.below hb).at_ hlt
        obtain ⟨b', o', rfl, hB', hc1'⟩ := (hW'.below hb).at_ hlt'
        have HA := Lib.hid hall; clear hall
        generalize hs0 : ss[k] = x at *
        generalize hs1 : ss'[k] = x' at *
        have HS := Lib.hid hs0; clear hs0
        have HS' := Lib.hid hs1; clear hs1
        by_cases hx : x = x'
        · have e1 := str_eq_true hx
          have HX := Lib.hid hx
          clear hx
          go_wp2
          go_quiet (fail)
          all_goals
            have hb2 := below_drewN hb nq
            go_wp2
            go_roundw
            case rel => exact ⟨k + 1, by omega, by go_num, fun j h1 h2 hjk => by
              by_cases e : j = k
              · subst e; exact (HS.out.trans HX.out).trans HS'.out.symm
              · exact HA.out j h1 h2 (by omega), hb2⟩
            case measure => simp only [intOf]; omega
        · have e1 := str_eq_false hx
          have HX := Lib.hid (show ss ≠ ss' by rintro rfl; exact hx (HS.out.symm.trans HS'.out))
          clear hx
          go_wp2
          go_quiet (fail)
          all_goals
            have hb2 := below_drewN hb nq
            go_wp2
            go_ret
            exact ⟨ret_bool (by simp [HX.out]), hb2⟩
      · obtain rfl : k = ss.length := by omega
        go_wp2
        go_ret
        refine ⟨ret_bool ?_, hb⟩
        rw [eq_comm, decide_eq_true_eq]
        exact List.ext_getElem HL.out (fun j h1 h2 => hall j h1 h2 h1)
  · have e1 : ((ss.length : Int) == (ss'.length : Int)) = false := by rw [beq_eq_false_iff_ne]; omega
    have e2 : ((ss.length : Int) != (ss'.length : Int)) = true := by rw [bne, e1]; rfl
    have HL := Lib.hid hl; clear hl
    go_enter Tryz.func146, Tryz.ntmps146
    go_wp2
    go_ret
    refine ⟨ret_bool ?_, Below.refl _ _⟩
    rw [eq_comm, decide_eq_false_iff_not]
    rintro rfl
    exact HL.out rfl

/-- The program's table of keys stands in the world. -/
structure KTab (w : World) : Prop where
  size : 1 ≤ w.heap.size
  keys : ∃ t fr, w.heap[2]? = some (.cells (keyL.map fun k => Value.string ⟨k.toArray⟩).toArray t fr)
theorem KTab.below {w w' : World} (T : KTab w) (hb : Below w.heap.size w w') : KTab w' := by
  obtain ⟨t, fr, hk⟩ := T.keys
  have hsz := T.size
  exact ⟨by have := hb.size; omega, t, fr, by rw [hb.block _ (Array.getElem?_eq_some_iff.1 hk).1]; exact hk⟩
/-- The keys' cells, and the block that the program's KeyWords makes. -/
def keyCells : List Value := keyL.map fun k => Value.string ⟨k.toArray⟩
def keyArr : Obj := .cells keyCells.toArray 270 (0, 0)
theorem keyCells_at : ∀ k, k < 9 → keyCells[k]? = some (.string (keyB k)) := by
  intro k hk
  have h : k = 0 ∨ k = 1 ∨ k = 2 ∨ k = 3 ∨ k = 4 ∨ k = 5 ∨ k = 6 ∨ k = 7 ∨ k = 8 := by omega
  rcases h with rfl | rfl | rfl | rfl | rfl | rfl | rfl | rfl | rfl <;> rfl
def keyS : List ByteArray := keyL.map fun k => ⟨k.toArray⟩
theorem keyS_len : keyS.length = 9 := rfl
theorem keyS_self : decide (keyS = keyS) = true := by simp
theorem keyS_at (k : Nat) (h : k < keyS.length) : keyS[k] = keyB k := by
  have h' : k < 9 := h
  have h : k = 0 ∨ k = 1 ∨ k = 2 ∨ k = 3 ∨ k = 4 ∨ k = 5 ∨ k = 6 ∨ k = 7 ∨ k = 8 := by omega
  rcases h with rfl | rfl | rfl | rfl | rfl | rfl | rfl | rfl | rfl <;> rfl
theorem keyArr_own (w : World) (base : Nat) (hb : base ≤ w.heap.size) : (w.alloc keyArr).ownsRow base 270 1 (.slice (some ⟨w.heap.size, 0, none⟩) 9 9) 9 keyCells := by
  refine ⟨rfl, .inr ⟨w.heap.size, 9, keyCells.toArray, rfl, hb, ?_, Nat.le_refl _, by unfold maxLen; omega, rfl, rfl⟩⟩
  show (w.heap.push keyArr)[w.heap.size]? = _
  simp [keyArr]
theorem strs_of_own {w : World} {base e g cap : Nat} {ss : List ByteArray} {xs : List Value} {n : Nat} (h : w.ownsRow base e 1 (.slice (some ⟨g, 0, none⟩) n cap) n xs) (hn : ss.length = n) (hx : ∀ k, (h : k < ss.length) → xs[k]? = some (.string ss[k])) : Strs w w.heap.size (some ⟨g, 0, none⟩) ss := by
  intro _
  refine ⟨g, 0, rfl, (h.lt g rfl).2, fun k hk => ?_⟩
  rw [Nat.zero_add, h.cellAt k (by omega), hx k hk]
theorem keyBlock_strs (w : World) : Strs (w.alloc keyBlock) (w.alloc keyBlock).heap.size (some ⟨w.heap.size, 0, none⟩) keyS := by
  intro _
  refine ⟨w.heap.size, 0, rfl, by show _ < (w.heap.push keyBlock).size; simp, fun k hk => ?_⟩
  rw [Nat.zero_add, keyBlock_cell w k hk, keyS_at k hk]

end Go.Proofs.YtljdbjfbcjigaaaGreatDoor

namespace Go.Proofs.YtljdbjfbcjigaaaGreatDoor
open Go.RowKit
set_option maxRecDepth 100000

theorem keyB_size : ∀ k, k < 9 → (keyB k).size ≤ 4 := by decide +kernel
theorem validB_size {n : Int} {s : ByteArray} (h : validB n s = true) : s.size ≤ 4 := by
  unfold validB at h
  split at h
  · unfold nameB at h
    simp only [Bool.and_eq_true, decide_eq_true_eq] at h
    exact h.1.2
  · split at h
    · rw [decide_eq_true_eq] at h
      unfold numB at h
      split at h
      · rename_i hc
        have := canon_len hc.1 hc.2
        simp at this
        omega
      · omega
    · split at h
      · unfold signB at h
        split at h
        · omega
        · cases h
      · split at h
        · obtain ⟨k, hk, rfl⟩ := (isKeyB_iff s).1 h
          exact keyB_size k hk
        · cases h

/-- The texts of words with a space between. -/
def joinB (ws : List (Int × ByteArray)) : List UInt8 := Lib.join (ws.map (·.2.data.toList)) [32]
theorem joinB_nil : joinB [] = [] := rfl
theorem join_snoc (x : List UInt8) (l : List (List UInt8)) (y : List UInt8) : Lib.join (x :: l ++ [y]) [32] = Lib.join (x :: l) [32] ++ (32 :: y) := by
  rw [List.cons_append, Lib.join_cons, Lib.join_cons]
  simp [Lib.joinTail]
theorem joinB_first {ws : List (Int × ByteArray)} (h : 0 < ws.length) : joinB (ws.take 1) = ws[0].2.data.toList := by
  cases ws with
  | nil => simp at h
  | cons x l => simp [joinB, Lib.join_one]
theorem joinB_next {ws : List (Int × ByteArray)} {k : Nat} (h : k < ws.length) (hk : 0 < k) : joinB (ws.take (k + 1)) = joinB (ws.take k) ++ (32 :: ws[k].2.data.toList) := by
  unfold joinB
  rw [List.take_succ_eq_append_getElem h, List.map_append]
  cases hw : (ws.take k).map (·.2.data.toList) with
  | nil =>
    exfalso
    have := congrArg List.length hw
    rw [List.length_map, List.length_take, List.length_nil] at this
    omega
  | cons x l => exact join_snoc x l _
/-- The first k words are valid. -/
def validTo (ws : List (Int × ByteArray)) (k : Nat) : Prop := ∀ j, (h : j < ws.length) → j < k → validB ws[j].1 ws[j].2 = true
theorem validTo_succ {ws : List (Int × ByteArray)} {k : Nat} (h : validTo ws k) (hk : k < ws.length) (hv : validB ws[k].1 ws[k].2 = true) : validTo ws (k + 1) := by
  intro j hj hjk
  by_cases e : j = k
  · subst e; exact hv
  · exact h j hj (by omega)
theorem joinB_len {ws : List (Int × ByteArray)} : ∀ (k : Nat), k ≤ ws.length → validTo ws k → (joinB (ws.take k)).length ≤ 5 * k
  | 0, _, _ => by simp [joinB_nil]
  | k + 1, hk, h => by
    have hv := validB_size (h k (by omega) (by omega))
    have ih := joinB_len k (by omega) (fun j hj hjk => h j hj (by omega))
    by_cases h0 : k = 0
    · subst h0
      rw [joinB_first (by omega)]
      have e : ws[0].2.data.toList.length = ws[0].2.size := by simp
      rw [e]
      omega
    · rw [joinB_next (by omega) (by omega), List.length_append, List.length_cons]
      have e : ws[k].2.data.toList.length = ws[k].2.size := by simp
      rw [e]
      omega
open Classical in
/-- What JoinWords returns. -/
noncomputable def joinF (ws : List (Int × ByteArray)) : ByteArray × Bool :=
  if ws.length ≤ 600 ∧ validTo ws ws.length then (⟨(joinB ws).toArray⟩, true) else (⟨#[]⟩, false)
theorem joinF_yes {ws : List (Int × ByteArray)} (h : ws.length ≤ 600) (hv : validTo ws ws.length) : joinF ws = (⟨(joinB ws).toArray⟩, true) := by unfold joinF; rw [if_pos ⟨h, hv⟩]
theorem joinF_long {ws : List (Int × ByteArray)} (h : 600 < ws.length) : joinF ws = (⟨#[]⟩, false) := by unfold joinF; rw [if_neg (fun h' => by omega)]
theorem joinF_bad {ws : List (Int × ByteArray)} {k : Nat} (hk : k < ws.length) (hv : validB ws[k].1 ws[k].2 = false) : joinF ws = (⟨#[]⟩, false) := by
  unfold joinF; rw [if_neg]
  rintro ⟨_, h⟩
  rw [h k hk hk] at hv; cases hv
/-- Two results: a text and a flag; new blocks at most. -/
def TextRet (p : ByteArray × Bool) (w : World) (e : Ending) (w' : World) : Prop := e = .returned (.tuple #[.string p.1, .bool p.2]) ∧ Below w.heap.size w w'

set_option maxHeartbeats 1000000 in
theorem specJoinWords_any (A : Option Addr) (ws : List (Int × ByteArray)) (cap : Nat) (w : World) (hW : Words w w.heap.size A ws) (hs : ∀ x ∈ ws, x.2.size ≤ 1048576) (hn : ws.length ≤ 1048576) :
    Calls Tryz.prog 120 #[.slice A ws.length cap] w (TextRet (joinF ws) w) := by
  by_cases hlong : 600 < ws.length
  · rw [joinF_long hlong]
    have hpos : 0 < ws.length := by omega
    go_enter Tryz.func120, Tryz.ntmps120
    go_wp2
    refine wp_loop_rounds 1 ?_
    rw [rounds_succ]
    go_wp2
    go_ret2
    exact ⟨rfl, Below.refl _ _⟩
  have hle : ws.length ≤ 600 := by omega
  clear hlong
  have HS := Lib.hid hs
  clear hs
  go_enter Tryz.func120, Tryz.ntmps120
  go_wp2
  go_loopw [4, 5] (fun o i wr => ∃ (k : Nat) (out : ByteArray), k ≤ ws.length ∧ i = .int .i64 k ∧ o = .string out ∧ out.data.toList = joinB (ws.take k) ∧ validTo ws k ∧ Below w.heap.size w wr) (fun _ i _ => ws.length - (intOf i).toNat)
  case atStart => exact ⟨0, ⟨#[]⟩, Nat.zero_le _, rfl, rfl, rfl, fun j _ hj => absurd hj (by omega), Below.refl _ _⟩
  case round =>
    obtain ⟨k, out, hk, rfl, rfl, ho, hv, hb⟩ := hrel
    have hol : out.size ≤ 5 * k := by
      have := joinB_len k hk hv
      rw [← ho] at this
      simpa using this
    by_cases hlt : k < ws.length
    · obtain ⟨b, o, rfl, hB, hc1, hc2⟩ := (hW.below hb).at_ hlt
      have hsz := HS.out _ (List.getElem_mem hlt)
      have hBr : b < wr.heap.size := Nat.lt_of_lt_of_le hB hb.size
      have SV := fun W => Lib.hid (specWordValid_any ws[k].1 ws[k].2 W hsz)
      cases hval : validB ws[k].1 ws[k].2
      · have hbad := Lib.hid (joinF_bad hlt hval)
        rw [hval] at SV
        clear hval ho
        generalize ws[k].1 = n1 at *
        generalize ws[k].2 = s1 at *
        go_wp2_with fail
        refine (SV _).out.mono ?_
        rintro e w2 ⟨rfl, hb2⟩
        have hb3 := hb.trans (hb2.mono hb.size)
        clear hb hb2
        go_wp2
        go_ret2
        rw [hbad.out]
        exact ⟨rfl, hb3⟩
      · have HV := Lib.hid (validTo_succ hv hlt hval)
        have hs4 := validB_size hval
        rw [hval] at SV
        clear hval
        by_cases h0 : k = 0
        · have HO := Lib.hid (show joinB (ws.take (k + 1)) = ws[k].2.data.toList by subst h0; exact joinB_first hlt)
          have hout : out = ⟨#[]⟩ := by
            subst h0
            cases out with | mk d =>
            have : d.toList = [] := ho
            rw [Array.toList_eq_nil_iff] at this
            rw [this]
          subst hout
          have hk0 : k ≤ 0 := by omega
          clear ho hol hv h0
          generalize hn1 : ws[k].1 = n1 at *
          generalize hs1 : ws[k].2 = s1 at *
          have HS1 := Lib.hid hs1; clear hs1 hn1
          go_wp2_with fail
          refine (SV _).out.mono ?_
          rintro e w2 ⟨rfl, hb2⟩
          have g2 := (hb2.cell (p := ⟨b, o + k * 2 + 1, none⟩) hBr).trans hc2
          have hb3 := hb.trans (hb2.mono hb.size)
          clear hb hb2 hc1 hc2
          go_wp2
          go_roundw
          case rel => exact ⟨k + 1, _, by omega, by go_num, rfl, by rw [HO.out]; simp, HV.out, hb3⟩
          case measure => simp only [intOf]; omega
        · have HO := Lib.hid (joinB_next hlt (Nat.pos_of_ne_zero h0))
          have hk0 : 0 < k := Nat.pos_of_ne_zero h0
          have HOUT := Lib.hid ho
          clear ho hv h0
          generalize hn1 : ws[k].1 = n1 at *
          generalize hs1 : ws[k].2 = s1 at *
          have HS1 := Lib.hid hs1; clear hs1 hn1
          go_wp2_with fail
          refine (SV _).out.mono ?_
          rintro e w2 ⟨rfl, hb2⟩
          have g2 := (hb2.cell (p := ⟨b, o + k * 2 + 1, none⟩) hBr).trans hc2
          have hb3 := hb.trans (hb2.mono hb.size)
          clear hb hb2 hc1 hc2
          go_wp2
          go_roundw
          case rel => exact ⟨k + 1, _, by omega, by go_num, rfl, by rw [HO.out, ← HOUT.out]; simp, HV.out, hb3⟩
          case measure => simp only [intOf]; omega
    · obtain rfl : k = ws.length := by omega
      have HO := Lib.hid (show out = ⟨(joinB ws).toArray⟩ by
        rw [List.take_of_length_le (Nat.le_refl _)] at ho
        rw [← ho])
      have HF := Lib.hid (joinF_yes hle hv)
      clear ho hv
      go_wp2
      go_ret2
      rw [HF.out, ← HO.out]
      exact ⟨rfl, hb⟩

theorem stringInfo : (Tryz.prog.info? 9).map (fun i => (i.zero, i.size, i.bytes)) = some (some (.string ⟨#[]⟩), 1, 16) := by kernel_rfl
theorem new_text (w : World) (s : ByteArray) : ∀ (j : Nat) u, [Value.string s][j]? = some u → (w.alloc (.cells #[.string s] 9)).cell? ((⟨w.heap.size, 0, none⟩ : Addr).add j) = some u := by
  intro j u hu
  match j, hu with
  | 0, hu =>
    have : (⟨w.heap.size, 0, none⟩ : Addr).add 0 = ⟨w.heap.size, 0, none⟩ := rfl
    rw [this, alloc_cell]
    exact hu
  | j + 1, hu => simp at hu
/-- The cells of the first k texts. -/
def textCells (ws : List (Int × ByteArray)) (k : Nat) : List Value := (ws.take k).map fun x => Value.string x.2
theorem textCells_succ {ws : List (Int × ByteArray)} {k : Nat} (h : k < ws.length) : textCells ws (k + 1) = textCells ws k ++ [.string ws[k].2] := by
  unfold textCells; rw [List.take_succ_eq_append_getElem h, List.map_append]; rfl

set_option maxHeartbeats 2000000 in
theorem implJoinWords_any (A : Option Addr) (ws : List (Int × ByteArray)) (cap : Nat) (w : World) (hW : Words w w.heap.size A ws) (hs : ∀ x ∈ ws, x.2.size ≤ 1048576) (hn : ws.length ≤ 1048576) (T : Tabs w) (N : NTabs w) :
    Calls Tryz.prog 62 #[.slice A ws.length cap] w (TextRet (joinF ws) w) := by
  by_cases hlong : 600 < ws.length
  · rw [joinF_long hlong]
    go_enter Tryz.func62, Tryz.ntmps62
    go_wp2
    go_ret2
    exact ⟨rfl, Below.refl _ _⟩
  have hle : ws.length ≤ 600 := by omega
  clear hlong
  have HS := Lib.hid hs
  clear hs
  obtain ⟨i0, hi, hz0, hz1, hz2⟩ := info_parts stringInfo
  go_enter Tryz.func62, Tryz.ntmps62
  go_wp2_with (with_reducible refine wpList_make_own _ rfl _ _ 67 rfl w.heap.size 9 i0 (.string ⟨#[]⟩) 1 Tryz.underlying67 hi hz0 hz1 _ _ _ ws.length rfl rfl rfl ?c1 ?c2 ?c3 ?_)
  case c1 => rw [hz2]; omega
  case c2 => unfold maxLen; omega
  case c3 => exact Nat.le_refl _
  intro w1 hown hgrow
  have hb0 : Below w.heap.size w w1 := (Below.refl _ _).grown hgrow (Nat.le_refl _) (fun k e => by cases e)
  have HO0 := Lib.hid hown
  clear hgrow hown
  go_wp2
  go_loopw [4, 16] (fun v i wr => ∃ (k : Nat), k ≤ ws.length ∧ i = .int .i64 k ∧ v = .slice (some ⟨w.heap.size, 0, none⟩) k ws.length ∧ wr.ownsRow w.heap.size 9 1 (.slice (some ⟨w.heap.size, 0, none⟩) k ws.length) k (textCells ws k) ∧ validTo ws k ∧ Below w.heap.size w wr) (fun _ i _ => ws.length - (intOf i).toNat)
  case atStart => exact ⟨0, Nat.zero_le _, rfl, rfl, HO0.out, fun j _ hj => absurd hj (by omega), hb0⟩
  case round =>
    clear HO0 hb0
    obtain ⟨k, hk, rfl, rfl, hown, hv, hb⟩ := hrel
    by_cases hlt : k < ws.length
    · obtain ⟨b, o, rfl, hB, hc1, hc2⟩ := (hW.below hb).at_ hlt
      have hsz := HS.out _ (List.getElem_mem hlt)
      have TB := fun W h => T.below (w' := W) h
      have NB := fun W h => N.below (w' := W) h
      have SV := fun W h1 h2 => Lib.hid (implWordValid_any ws[k].1 ws[k].2 W hsz h1 h2)
      have HO := Lib.hid hown
      clear hown
      cases hval : validB ws[k].1 ws[k].2
      · have hbad := Lib.hid (joinF_bad hlt hval)
        rw [hval] at SV
        clear hval
        generalize ws[k].1 = n1 at *
        generalize ws[k].2 = s1 at *
        have hb1 := hb.alloc hb.size (.cells #[.int .i64 n1, .string s1] 138)
        go_wp2_with fail
        refine (SV _ (TB _ hb1) (NB _ hb1)).out.mono ?_
        rintro e w2 ⟨rfl, hb2⟩
        have hb3 := hb1.trans (hb2.mono hb1.size)
        clear hb hb1 hb2 TB NB
        go_wp2
        go_ret2
        rw [hbad.out]
        exact ⟨rfl, hb3⟩
      · have HV := Lib.hid (validTo_succ hv hlt hval)
        have HT := Lib.hid (textCells_succ hlt)
        rw [hval] at SV
        clear hval hv
        generalize ws[k].1 = n1 at *
        generalize ws[k].2 = s1 at *
        have hb1 := hb.alloc hb.size (.cells #[.int .i64 n1, .string s1] 138)
        have hown1 := HO.out.alloc (.cells #[.int .i64 n1, .string s1] 138)
        have hcl := alloc_cell wr #[.int .i64 n1, .string s1] 138 (0, 0) 1
        have HO1 := Lib.hid hown1
        have HCL := Lib.hid hcl
        clear hcl hown1
        go_wp2_with fail
        refine (SV _ (TB _ hb1) (NB _ hb1)).out.mono ?_
        rintro e w2 ⟨rfl, hb2⟩
        have g2 : w2.cell? ⟨wr.heap.size, 1, none⟩ = some (.string s1) := (hb2.cell (p := ⟨wr.heap.size, 1, none⟩) (by simp)).trans HCL.out
        have HO2 := Lib.hid (HO1.out.kept (w' := w2) (row := none) ⟨hb2.os, hb2.tape, hb2.output, hb2.size, fun i hi _ => hb2.block i hi⟩ (by simp [Value.ownBlock]))
        have hb3 := hb1.trans (hb2.mono hb1.size)
        clear hb hb1 hb2 TB NB hc1 hc2
        have HNW := Lib.hid (new_text w2 s1)
        have HOC := Lib.hid (show ∀ u ∈ [Value.string s1], u.oneCell' = true by intro u hu; simp at hu; subst hu; rfl)
        go_wp2_with (at_builtin; refine wpList_append_fits _ rfl _ _ 67 rfl w.heap.size 9 i0 1 Tryz.underlying67 hi hz1 w.heap.size k ws.length (textCells ws k) rfl (HO2.out.alloc _) ⟨w2.heap.size, 0, none⟩ 1 1 [.string s1] rfl rfl HNW.out HOC.out (by omega) ?_; intro w3 hown3 hgrow3)
        have hb4 : Below w.heap.size w w3 := (hb3.alloc hb3.size _).grown hgrow3 (Nat.le_trans hb3.size (by simp)) (fun k e => by cases e; exact Nat.le_refl _)
        have HO3 := Lib.hid hown3
        clear hb3 hgrow3 hown3
        go_wp2
        go_roundw
        case rel => exact ⟨k + 1, by omega, by go_num, rfl, by rw [HT.out]; exact HO3.out, HV.out, hb4⟩
        case measure => simp only [intOf]; omega
    · obtain rfl : k = ws.length := by omega
      have hcells : ∀ (j : Nat) x, (ws.map (·.2))[j]? = some x → wr.cell? ⟨w.heap.size, 0 + j, none⟩ = some (.string x) := by
        intro j x hx
        have hj : j < ws.length := by
          rcases Nat.lt_or_ge j ws.length with h | h
          · exact h
          · rw [List.getElem?_eq_none (by simpa using h)] at hx; cases hx
        rw [Nat.zero_add, hown.cellAt j (by omega)]
        unfold textCells
        rw [List.take_of_length_le (Nat.le_refl _), List.getElem?_map, List.getElem?_eq_getElem hj]
        rw [List.getElem?_map, List.getElem?_eq_getElem hj] at hx
        cases hx
        rfl
      have hjl := joinB_len ws.length (Nat.le_refl _) hv
      rw [List.take_of_length_le (Nat.le_refl _)] at hjl
      have hmm : Lib.join ((ws.map (·.2)).map (·.data.toList)) (⟨#[32]⟩ : ByteArray).data.toList = joinB ws := by
        unfold joinB; rw [List.map_map]; rfl
      have SJ := Tryz.strings_Join w.heap.size 0 ws.length (ws.map (·.2)) ⟨#[32]⟩ wr hcells (hown.lt _ rfl).2 (by simp; omega) (by simp) (by rw [hmm]; omega)
      rw [hmm, List.length_map] at SJ
      have HF := Lib.hid (joinF_yes hle hv)
      have hsz : (⟨(joinB ws).toArray⟩ : ByteArray).size ≤ 3000 := by show (joinB ws).toArray.size ≤ 3000; simp; omega
      generalize (⟨(joinB ws).toArray⟩ : ByteArray) = out at *
      have SJ' := Lib.hid SJ
      clear SJ hcells hmm hown hv hjl
      go_wp2_with fail
      refine SJ'.out.mono ?_
      rintro e w3 ⟨rfl, hb3⟩
      have hb4 := hb.trans (hb3.mono hb.size)
      clear hb hb3
      go_wp2
      go_ret2
      rw [HF.out]
      exact ⟨rfl, hb4⟩
end Go.Proofs.YtljdbjfbcjigaaaGreatDoor
