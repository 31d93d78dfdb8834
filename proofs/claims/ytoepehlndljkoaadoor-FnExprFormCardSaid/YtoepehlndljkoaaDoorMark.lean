/-
  Marks: what the laws' own markText returns; marks written into a slice of texts are held there.
-/
import Derived.Test.YtoepehlndljkoaaDoorW1
import Derived.Lib.ItoaNum
import Derived.Laws.BytesArg
namespace Go.Proofs.YtoepehlndljkoaaDoor
open Go.RowKit
set_option maxRecDepth 100000

/-- The mark of a number. -/
def markB (k : Nat) : ByteArray := ⟨(109 :: Lib.decDigits k).toArray⟩
/-- Behind some rounds: what is left of the number, and what is written. -/
def markRel (k0 k : Nat) (out : ByteArray) : Prop := (0 < k ∧ Lib.decDigits k0 = Lib.decDigits k ++ out.data.toList) ∨ (k = 0 ∧ out.data.toList = Lib.decDigits k0)

theorem conv_one (w : World) (n : Int) : (convert 34 9 (.slice (some ⟨w.heap.size, 0, none⟩) 1 1)).run Tryd.prog (w.alloc (.cells #[.int .u8 n] 5)) = .ok (.string ⟨#[UInt8.ofNat n.toNat]⟩) (w.alloc (.cells #[.int .u8 n] 5)) := by
  have h := run_convert_bytes_arg (P := Tryd.prog) (w.alloc (.cells #[.int .u8 n] 5)) 34 5 Tryd.underlying34 Tryd.underlying5 w.heap.size 0 1 1 [n] rfl (fun i hi => by
    obtain rfl : i = 0 := by omega
    exact alloc_cell w #[.int .u8 n] 5 (0, 0) 0) 9 Tryd.underlying9
  rw [h]
  rfl
theorem decDigits_step {n : Nat} (h : 0 < n) : Lib.decDigits n = (if n / 10 = 0 then [] else Lib.decDigits (n / 10)) ++ [UInt8.ofNat (48 + n % 10)] := by
  by_cases h10 : n < 10
  · have e1 : n / 10 = 0 := by omega
    have e2 : n % 10 = n := by omega
    rw [if_pos e1, e2, Lib.decDigits_one h10]; rfl
  · rw [if_neg (by omega), Lib.decDigits, dif_neg h10]
theorem markRel_succ {k0 n : Nat} {out : ByteArray} (h : markRel k0 n out) (hn : 0 < n) : markRel k0 (n / 10) ((⟨#[UInt8.ofNat (48 + n % 10)]⟩ : ByteArray) ++ out) := by
  rcases h with ⟨_, h⟩ | ⟨h, _⟩
  · rw [decDigits_step hn] at h
    by_cases e : n / 10 = 0
    · rw [if_pos e] at h
      right
      refine ⟨e, ?_⟩
      rw [h]
      simp
    · rw [if_neg e] at h
      left
      refine ⟨by omega, ?_⟩
      rw [h]
      simp
  · omega
theorem markRel_end {k0 : Nat} {out : ByteArray} (h : markRel k0 0 out) : (⟨#[109]⟩ : ByteArray) ++ out = markB k0 := by
  rcases h with ⟨h, _⟩ | ⟨_, h⟩
  · omega
  · unfold markB
    rw [← h]
    have : out = ⟨out.data.toList.toArray⟩ := by cases out; simp
    rw [this]
    rw [show (⟨#[109]⟩ : ByteArray) = ByteArray.mk [109].toArray from rfl, ByteArray.mk_append_mk]
    simp


/-- The post of a helper that writes marks. -/
def MarkRet (base e g n cap k0 : Nat) (w : World) (en : Ending) (w' : World) : Prop :=
  en = .returned (.int .i64 ((k0 + n : Nat) : Int)) ∧ (∃ xs', w'.ownsRow base e 1 (.slice (some ⟨g, 0, none⟩) n cap) n xs' ∧ ∀ j, j < n → xs'[j]? = some (.string (markB (k0 + j)))) ∧ Below base w w'


end Go.Proofs.YtoepehlndljkoaaDoor
