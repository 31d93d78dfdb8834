/-
  Marks: what the laws' own markText returns; marks written into a slice of texts are held there.
-/
import Derived.Test.YtgkfakbbinkbcabDoorW1
import Derived.Lib.ItoaNum
import Derived.Laws.BytesArg
namespace Go.Proofs.YtgkfakbbinkbcabDoor
open Go.RowKit
set_option maxRecDepth 100000

/-- The mark of a number. -/
def markB (k : Nat) : ByteArray := ⟨(109 :: Lib.decDigits k).toArray⟩
/-- Behind some rounds: what is left of the number, and what is written. -/
def markRel (k0 k : Nat) (out : ByteArray) : Prop := (0 < k ∧ Lib.decDigits k0 = Lib.decDigits k ++ out.data.toList) ∨ (k = 0 ∧ out.data.toList = Lib.decDigits k0)

theorem conv_one (w : World) (n : Int) : (convert 79 9 (.slice (some ⟨w.heap.size, 0, none⟩) 1 1)).run Tryd.prog (w.alloc (.cells #[.int .u8 n] 5)) = .ok (.string ⟨#[UInt8.ofNat n.toNat]⟩) (w.alloc (.cells #[.int .u8 n] 5)) := by
  have h := run_convert_bytes_arg (P := Tryd.prog) (w.alloc (.cells #[.int .u8 n] 5)) 79 5 Tryd.underlying79 Tryd.underlying5 w.heap.size 0 1 1 [n] rfl (fun i hi => by
    obtain rfl : i = 0 := by omega
    exact alloc_cell w #[.int .u8 n] 5 (0, 0) 0) 9 Tryd.underlying9
  rw [h]
  rfl
theorem decDigits_step {n : Nat} (h : 0 < n) : Lib.decDigits n = (if n / 10 = 0 then [] else Lib.decDigits (n / 10)) ++ [UInt8.ofNat (48 + n % 10)] := by
  by_cases h10 : n < 10
  · have e1 : n / 10 = 0 := by omega
    have e2 : n % 10 = n := by omega
    rw [if_pos e1, e2, Lib.decDigits_one h10]; rfl
  · rw [if_neg (by omega), Lib.decDigits, dif_neg h10]
theorem markRel_succ {k0 n : Nat} {out : ByteArray} (h : markRel k0 n out) (hn : 0 < n) : markRel k0 (n / 10) ((⟨#[UInt8.ofNat (48 + n % 10)]⟩ : ByteArray) ++ out) := by
  rcases h with ⟨_, h⟩ | ⟨h, _⟩
  · rw [decDigits_step hn] at h
    by_cases e : n / 10 = 0
    · rw [if_pos e] at h
      right
      refine ⟨e, ?_⟩
      rw [h]
      simp
    · rw [if_neg e] at h
      left
      refine ⟨by omega, ?_⟩
      rw [h]
      simp
  · omega
theorem markRel_end {k0 : Nat} {out : ByteArray} (h : markRel k0 0 out) : (⟨#[109]⟩ : ByteArray) ++ out = markB k0 := by
  rcases h with ⟨h, _⟩ | ⟨_, h⟩
  · omega
  · unfold markB
    rw [← h]
    have : out = ⟨out.data.toList.toArray⟩ := by cases out; simp
    rw [this]
    rw [show (⟨#[109]⟩ : ByteArray) = ByteArray.mk [109].toArray from rfl, ByteArray.mk_append_mk]
    simp

set_option maxHeartbeats 1000000 in
theorem markText_any (k0 : Nat) (w : World) (h0 : 0 < k0) (h1 : k0 ≤ 1000000000) :
    Calls Tryd.prog 39 #[.int .i64 k0] w fun e w' => e = .returned (.string (markB k0)) ∧ Below w.heap.size w w' := by
  go_enter Tryd.func39, Tryd.ntmps39
  go_wp2
  go_loopw [0, 3] (fun k o wr => ∃ (n : Nat) (out : ByteArray), n ≤ k0 ∧ k = .int .i64 n ∧ o = .string out ∧ out.size + n ≤ k0 + 20 ∧ markRel k0 n out ∧ Below w.heap.size w wr) (fun k _ _ => (intOf k).toNat)
  case atStart => exact ⟨k0, ⟨#[]⟩, Nat.le_refl _, rfl, rfl, by show 0 + k0 ≤ k0 + 20; omega, .inl ⟨h0, by simp⟩, Below.refl _ _⟩
  case round =>
    obtain ⟨n, out, hn, rfl, rfl, ho, hrel, hb⟩ := hrel
    have HR := Lib.hid hrel
    clear hrel
    by_cases hpos : 0 < n
    · have hcv := conv_one wr (48 + (n : Int) % 10)
      have hx : ((48 + (n : Int) % 10).toNat) = 48 + n % 10 := by omega
      rw [hx] at hcv
      clear hx
      have HS := Lib.hid (markRel_succ HR.out hpos)
      have hlen : ((⟨#[UInt8.ofNat (48 + n % 10)]⟩ : ByteArray)).size = 1 := rfl
      have hout : out.size ≤ k0 + 20 := by omega
      generalize hdd : (⟨#[UInt8.ofNat (48 + n % 10)]⟩ : ByteArray) = d at *
      clear hdd
      have hd1 : d.size ≤ 1 := by omega
      have HL := Lib.hid hlen
      clear hlen
      have hb2 := hb.alloc hb.size (.cells #[.int .u8 (48 + (n : Int) % 10)] 5)
      clear hb
      go_wp2
      go_roundw
      case rel => exact ⟨n / 10, d ++ out, by omega, by go_num, rfl, by rw [ByteArray.size_append]; have := HL.out; omega, HS.out, hb2⟩
      case measure => simp only [intOf]; omega
    · obtain rfl : n = 0 := by omega
      clear hpos
      have HE := Lib.hid (markRel_end HR.out)
      have hout : out.size ≤ k0 + 20 := by omega
      go_wp2
      go_ret
      exact ⟨by rw [← HE.out]; rfl, hb⟩

/-- The post of a helper that writes marks. -/
def MarkRet (base e g n cap k0 : Nat) (w : World) (en : Ending) (w' : World) : Prop :=
  en = .returned (.int .i64 ((k0 + n : Nat) : Int)) ∧ (∃ xs', w'.ownsRow base e 1 (.slice (some ⟨g, 0, none⟩) n cap) n xs' ∧ ∀ j, j < n → xs'[j]? = some (.string (markB (k0 + j)))) ∧ Below base w w'

set_option maxHeartbeats 1000000 in
theorem markStringS_any (base e g n cap k0 : Nat) (xs : List Value) (w : World) (hown : w.ownsRow base e 1 (.slice (some ⟨g, 0, none⟩) n cap) n xs) (hbase : base ≤ w.heap.size) (hn : n ≤ 1000000) (h0 : 0 < k0) (h1 : k0 ≤ 1000000) :
    Calls Tryd.prog 19 #[.slice (some ⟨g, 0, none⟩) n cap, .int .i64 k0] w (MarkRet base e g n cap k0 w) := by
  have hg := hown.lt g rfl
  have HO := Lib.hid hown
  clear hown
  go_enter Tryd.func19, Tryd.ntmps19
  go_wp2
  go_loopw [1, 5] (fun m i wr => ∃ (k : Nat) (xs' : List Value), k ≤ n ∧ i = .int .i64 k ∧ m = .int .i64 ((k0 + k : Nat) : Int) ∧ wr.ownsRow base e 1 (.slice (some ⟨g, 0, none⟩) n cap) n xs' ∧ (∀ j, j < k → xs'[j]? = some (.string (markB (k0 + j)))) ∧ Below base w wr) (fun _ i _ => n - (intOf i).toNat)
  case atStart => exact ⟨0, xs, Nat.zero_le _, rfl, by simp, HO.out, fun j hj => absurd hj (by omega), Below.refl _ _⟩
  case round =>
    clear HO
    obtain ⟨k, xs', hk, rfl, rfl, hown, hall, hb⟩ := hrel
    by_cases hlt : k < n
    · have HA := Lib.hid hall
      clear hall
      have hxl := hown.1
      go_wp2_with fail
      refine (markText_any (k0 + k) _ (by omega) (by omega)).mono ?_
      rintro en w2 ⟨rfl, hb1⟩
      have hown2 := hown.kept (w' := w2) (row := none) ⟨hb1.os, hb1.tape, hb1.output, hb1.size, fun i hi _ => hb1.block i hi⟩ (by simp [Value.ownBlock])
      have hb2 := hb.trans (hb1.mono (show base ≤ wr.heap.size from Nat.le_trans hbase hb.size))
      clear hown hb hb1
      have d1 := hown2.cellAt k (by omega)
      have f1 := hown2.frozenAt k
      rw [List.getElem?_eq_getElem (by omega)] at d1
      generalize xs'[k] = y1 at *
      have HO := Lib.hid hown2
      clear hown2 hxl
      generalize hmb : markB (k0 + k) = mb at *
      have HM := Lib.hid hmb
      clear hmb
      go_wp2
      go_roundw
      case rel =>
        have hs := HO.out.stored k (.string mb)
        exact ⟨k + 1, _, by omega, by go_num, by go_num, hs.1, fun j hj => by
          rw [List.getElem?_set]
          by_cases ej : k = j
          · subst ej
            rw [if_pos rfl, if_pos (by have := HO.out.1; omega), HM.out]
          · rw [if_neg ej]; exact HA.out j (by omega), hb2.setCell hg.1 _⟩
      case measure => simp only [intOf]; omega
    · obtain rfl : k = n := by omega
      have HA := Lib.hid hall
      have HO := Lib.hid hown
      clear hall hown
      go_wp2
      go_ret
      exact ⟨rfl, ⟨xs', HO.out, HA.out⟩, hb⟩

set_option maxHeartbeats 1000000 in
theorem heldStringS_any (base e g n cap k0 : Nat) (xs : List Value) (w : World) (hown : w.ownsRow base e 1 (.slice (some ⟨g, 0, none⟩) n cap) n xs) (hm : ∀ j, j < n → xs[j]? = some (.string (markB (k0 + j)))) (hn : n ≤ 1000000) (h0 : 0 < k0) (h1 : k0 ≤ 1000000) :
    Calls Tryd.prog 20 #[.slice (some ⟨g, 0, none⟩) n cap, .int .i64 k0] w fun en w' => en = .returned (.int .i64 ((k0 + n : Nat) : Int)) ∧ Below w.heap.size w w' := by
  have hg := hown.lt g rfl
  have HO := Lib.hid hown
  have HM := Lib.hid hm
  clear hown hm
  go_enter Tryd.func20, Tryd.ntmps20
  go_wp2
  go_loopw [1, 5] (fun m i wr => ∃ (k : Nat), k ≤ n ∧ i = .int .i64 k ∧ m = .int .i64 ((k0 + k : Nat) : Int) ∧ Below w.heap.size w wr) (fun _ i _ => n - (intOf i).toNat)
  case atStart => exact ⟨0, Nat.zero_le _, rfl, by simp, Below.refl _ _⟩
  case round =>
    obtain ⟨k, hk, rfl, rfl, hb⟩ := hrel
    by_cases hlt : k < n
    · have hc : wr.cell? ⟨g, k, none⟩ = some (.string (markB (k0 + k))) := by
        rw [hb.cell (p := ⟨g, k, none⟩) hg.2, HO.out.cellAt k (by omega), HM.out k hlt]
      have hgr : g < wr.heap.size := Nat.lt_of_lt_of_le hg.2 hb.size
      have CM := fun W => Lib.hid (markText_any (k0 + k) W (by omega) (by omega))
      have e1 : ((markB (k0 + k)).toList == (markB (k0 + k)).toList) = true := by simp
      generalize markB (k0 + k) = mb at *
      go_wp2_with fail
      go_region_held3 (fun u => u.cell? ⟨g, k, none⟩ = some (.string mb)) (go_keep)
        (first | (go_at_call 39; refine (CM _).out.mono ?_; rintro en w' ⟨rfl, hb1⟩; have g1 := (hb1.cell (p := ⟨g, k, none⟩) hgr).trans hc))
      all_goals
        have hb2 := hb.drew.trans (hb1.mono (show w.heap.size ≤ wr.heap.size from hb.size))
        clear hb hb1 hc g1
        go_wp2
        go_roundw
        case rel => exact ⟨k + 1, by omega, by go_num, by go_num, hb2⟩
        case measure => simp only [intOf]; omega
    · obtain rfl : k = n := by omega
      go_wp2
      go_ret
      exact ⟨rfl, hb⟩
end Go.Proofs.YtgkfakbbinkbcabDoor
