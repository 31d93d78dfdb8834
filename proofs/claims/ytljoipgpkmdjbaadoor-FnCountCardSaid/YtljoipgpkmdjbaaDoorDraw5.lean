/-
  Chapter 1's drawers: l1Text, DrawCutWords, DrawPlainText.
-/
import Derived.Test.YtljoipgpkmdjbaaDoorDraw4
namespace Go.Proofs.YtljoipgpkmdjbaaDoor
open Go.RowKit
set_option maxRecDepth 100000

def textA : List ByteArray := [⟨#[]⟩, ⟨#[]⟩, ⟨#[32]⟩, ⟨#[10, 32]⟩]
def textB : List ByteArray := [⟨#[32]⟩, ⟨#[32]⟩, ⟨#[32]⟩, ⟨#[32, 32]⟩, ⟨#[10]⟩, ⟨#[]⟩]
def textN : List Int := [3, 6, 10, 1, 0, 20]
def textM : List Int := [600, 601]
def textL : List Int := [0, 2399, 2400, 2401]
theorem textA_le : ∀ s ∈ textA, s.size ≤ 9 := by decide
theorem textB_le : ∀ s ∈ textB, s.size ≤ 9 := by decide
theorem nat_of (s : Int) (m : Nat) (h : 0 ≤ s ∧ s ≤ m) : ∃ n : Nat, n ≤ m ∧ s = (n : Int) := ⟨s.toNat, by omega, by omega⟩
theorem textN_le : ∀ s ∈ textN, 0 ≤ s ∧ s ≤ (20 : Nat) := by decide
theorem textM_le : ∀ s ∈ textM, 0 ≤ s ∧ s ≤ (601 : Nat) := by decide
theorem textL_le : ∀ s ∈ textL, 0 ≤ s ∧ s ≤ (2401 : Nat) := by decide


/-- What the drawers of texts give to a law. -/
def TextDraw (w : World) (e : Ending) (w' : World) : Prop := ∃ s : ByteArray, s.size ≤ 7000 ∧ e = .returned (.string s) ∧ Below w.heap.size w w'
end Go.Proofs.YtljoipgpkmdjbaaDoor
