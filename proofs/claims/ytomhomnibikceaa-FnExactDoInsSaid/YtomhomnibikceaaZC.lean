/-
  Numbers as bytes, of the program.
-/
import Derived.Test.YtomhomnibikceaaZB
import Derived.Lib.Slices
import Derived.Lib.AppendIntMem
namespace Go.Proofs.Ytomhomnibikceaa
open Go.RowKit
set_option maxRecDepth 100000

theorem zByteInfo : (Try.prog.info? 5).map (fun i => (i.zero, i.size, i.bytes)) = some (some (.int .u8 0), 1, 1) := by kernel_rfl
/-- Numbers that lie one behind the other below a block. -/
def Nums (w : World) (l : List Int) (A : Option Addr) : Prop := l ≠ [] → ∃ b o, A = some ⟨b, o, none⟩ ∧ b < w.heap.size ∧ ∀ k, (h : k < l.length) → w.cell? ⟨b, o + k, none⟩ = some (.int .i64 l[k])
theorem Nums.on {w w' : World} {l : List Int} {A : Option Addr} (h : Nums w l A) (hb : Below w.heap.size w w') : Nums w' l A := by
  intro hne
  obtain ⟨b, o, e, hB, hc⟩ := h hne
  exact ⟨b, o, e, Nat.lt_of_lt_of_le hB hb.size, fun k hk => (hb.cell (p := ⟨b, _, none⟩) hB).trans (hc k hk)⟩
theorem Nums.at_ {w : World} {l : List Int} {A : Option Addr} (h : Nums w l A) {k : Nat} (hk : k < l.length) :
    ∃ b o, A = some ⟨b, o, none⟩ ∧ b < w.heap.size ∧ w.cell? ⟨b, o + k, none⟩ = some (.int .i64 l[k]) := by
  obtain ⟨b, o, e, hB, hc⟩ := h (by intro e; subst e; simp at hk)
  exact ⟨b, o, e, hB, hc k hk⟩
def bCs (l : List Int) : List Value := l.map (Value.int .u8)
theorem bCs_len (l : List Int) : (bCs l).length = l.length := List.length_map _
theorem bCs_app (a b : List Int) : bCs (a ++ b) = bCs a ++ bCs b := List.map_append
theorem new_byte (w : World) (n : Int) (t : TypeId) : ∀ j u, [Value.int .u8 n][j]? = some u → (w.alloc (.cells #[.int .u8 n] t)).cell? ((⟨w.heap.size, 0, none⟩ : Addr).add j) = some u := by
  intro j u hu
  cases j with
  | zero =>
    obtain rfl : Value.int .u8 n = u := by simpa using hu
    exact alloc_cell w _ t (0, 0) 0
  | succ j => simp at hu
theorem byte_cell (n : Int) : ∀ u ∈ [Value.int .u8 n], u.oneCell' = true := by intro u hu; simp at hu; subst hu; rfl
def OwnB (base : Nat) (w : World) (l : List Int) (v : Value) : Prop := w.ownsRow base 5 1 v l.length (bCs l)
theorem ownB_nil (base : Nat) (w : World) : OwnB base w [] (.slice none 0 0) := ⟨rfl, .inl ⟨rfl, rfl⟩⟩
theorem ownB_below {base : Nat} {w w' : World} {l : List Int} {v : Value} (h : OwnB base w l v) (hb : Below w.heap.size w w') : OwnB base w' l v :=
  World.ownsRow.kept (row := none) h ⟨hb.os, hb.tape, hb.output, hb.size, fun i hi _ => hb.block i hi⟩ (Classical.em _)
def byteB (x : Int) : Bool := decide (0 ≤ x ∧ x ≤ 255)
def bytesB (l : List Int) : Bool := l.all byteB
theorem bytesB_no {l : List Int} {k : Nat} (h : k < l.length) (hx : ¬ (0 ≤ l[k] ∧ l[k] ≤ 255)) : bytesB l = false := by
  have : bytesB l ≠ true := fun e => hx (of_decide_eq_true (List.all_eq_true.1 e l[k] (List.getElem_mem h)))
  simpa using this
theorem bytesB_yes {l : List Int} (h : ∀ k, (h : k < l.length) → 0 ≤ l[k] ∧ l[k] ≤ 255) : bytesB l = true := by
  refine List.all_eq_true.2 fun x hx => ?_
  obtain ⟨i, hi, rfl⟩ := List.getElem_of_mem hx
  exact decide_eq_true (h i hi)
def BytesRet (l : List Int) (w : World) (e : Ending) (w' : World) : Prop :=
  (if bytesB l then ∃ v, e = .returned (.tuple #[v, .bool true]) ∧ OwnB w.heap.size w' l v else e = .returned (.tuple #[.slice none 0 0, .bool false])) ∧ Below w.heap.size w w'
theorem BytesRet.no {l : List Int} {w w' : World} (h : bytesB l = false) (hb : Below w.heap.size w w') : BytesRet l w (.returned (.tuple #[.slice none 0 0, .bool false])) w' := by
  refine ⟨?_, hb⟩
  rw [h]
  exact rfl
theorem BytesRet.yes {l : List Int} {w w' : World} {v : Value} (h : bytesB l = true) (ho : OwnB w.heap.size w' l v) (hb : Below w.heap.size w w') : BytesRet l w (.returned (.tuple #[v, .bool true])) w' := by
  refine ⟨?_, hb⟩
  rw [h]
  exact ⟨v, rfl, ho⟩
set_option maxHeartbeats 2000000 in
theorem bytesOf_any (l : List Int) (hn : l.length ≤ 1048576) (A : Option Addr) (cap : Nat) (w : World) (hR : Nums w l A) :
    Calls Try.prog 9 #[.slice A l.length cap] w (BytesRet l w) := by
  have HR := Lib.hid hR
  clear hR
  obtain ⟨i0, hi, hz0, hz1, hz2⟩ := info_parts zByteInfo
  go_enter Try.func9, Try.ntmps9
  go_wp2_with fail
  go_loopw [4, 9] (fun v i wr => ∃ k : Nat, k ≤ l.length ∧ i = .int .i64 k ∧ OwnB w.heap.size wr (l.take k) v ∧ (∀ j, (h : j < l.length) → j < k → 0 ≤ l[j] ∧ l[j] ≤ 255) ∧ Below w.heap.size w wr) (fun _ i _ => l.length - (intOf i).toNat)
  case atStart => exact ⟨0, Nat.zero_le _, rfl, ownB_nil _ _, fun j _ h => absurd h (by omega), Below.refl _ _⟩
  case round =>
    obtain ⟨k, hk, rfl, hown, hg, hb⟩ := hrel
    have HO := Lib.hid hown
    have HG := Lib.hid hg
    clear hown hg
    have hbs := hb.size
    by_cases hlt : k < l.length
    · obtain ⟨b, o, rfl, hB, hc⟩ := (HR.out.on hb).at_ hlt
      have HL := Lib.hid (show l.take (k + 1) = l.take k ++ [l[k]] from List.take_succ_eq_append_getElem hlt)
      have HT := Lib.hid (show (l.take k).length = k by rw [List.length_take]; omega)
      have HBAD := Lib.hid (fun h => bytesB_no (l := l) hlt h)
      have HX := Lib.hid (show ∀ j, (h : j < l.length) → j < k + 1 → (0 ≤ l[k] ∧ l[k] ≤ 255) → 0 ≤ l[j] ∧ l[j] ≤ 255 from fun j hj hjk hx => by
        rcases Nat.lt_or_ge j k with h | h
        · exact HG.out j hj h
        · obtain rfl : j = k := by omega
          exact hx)
      generalize l[k] = x at *
      by_cases h0 : x < 0
      · have HF := Lib.hid (HBAD.out (by omega))
        clear HBAD HX HL
        go_wp2_with fail
        go_ret2
        exact BytesRet.no HF.out hb
      by_cases h1 : 255 < x
      · have HF := Lib.hid (HBAD.out (by omega))
        clear HBAD HX HL
        go_wp2_with fail
        go_ret2
        exact BytesRet.no HF.out hb
      have HX2 := Lib.hid (fun j hj hjk => HX.out j hj hjk (by omega))
      clear HBAD HX
      have hb4 := hb.alloc hb.size (.cells #[.int .u8 x] 5)
      have hbz : w.heap.size ≤ (wr.alloc (.cells #[.int .u8 x] 5)).heap.size := hb4.size
      have HNW := Lib.hid (new_byte wr x 5)
      have HTO := Lib.hid (byte_cell x)
      have HO2 := Lib.hid (HO.out.alloc (.cells #[.int .u8 x] 5))
      go_wp2_with (at_builtin; refine wpList_append_own _ rfl _ _ 26 rfl w.heap.size 5 i0 (.int .u8 0) 1 1 Try.underlying26 hi hz0 hz1 hz2 rfl (by decide) _ (l.take k).length (bCs (l.take k)) rfl HO2.out ⟨wr.heap.size, 0, none⟩ 1 1 [.int .u8 x] rfl rfl HNW.out HTO.out (by unfold maxLen; have := HT.out; omega) (by have := HT.out; omega) hbz ?_; intro v' w3 hown3 hgrow3 _; have hb5 := hb4.grown hgrow3 hbz (fun j e => (HO2.out.lt j e).1); have HO3 := Lib.hid hown3; clear hown3 hgrow3)
      go_roundw
      case rel => exact ⟨k + 1, by omega, by go_num, by unfold OwnB; rw [HL.out, List.length_append, bCs_app]; exact HO3.out, HX2.out, hb5⟩
      case measure => simp only [intOf]; omega
    · obtain rfl : k = l.length := by omega
      have HE := Lib.hid (bytesB_yes (l := l) fun j hj => HG.out j hj hj)
      have HT := Lib.hid (List.take_length (l := l))
      go_wp2_with fail
      go_ret2
      exact BytesRet.yes HE.out (by have := HO.out; rw [HT.out] at this; exact this) hb
end Go.Proofs.Ytomhomnibikceaa
