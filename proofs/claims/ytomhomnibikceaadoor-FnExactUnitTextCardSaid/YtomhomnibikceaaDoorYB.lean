/-
  What is written into a builder: with what stays where it is.
-/
import Derived.Test.YtomhomnibikceaaDoorYA
import Derived.Test.YtomhomnibikceaaDoorSW
import Derived.Test.YtomhomnibikceaaDoorNF
import Derived.Lib.AppendIntMem
import Derived.Deep.CutRange
namespace Go.Proofs.YtomhomnibikceaaDoor
open Go.RowKit
set_option maxRecDepth 100000

/-- All blocks stay but the builder's own and those of bytes. -/
def Aside (b : Nat) (w w' : World) : Prop := w.heap.size ≤ w'.heap.size ∧ ∀ j, j < w.heap.size → j ≠ b → (∀ cs fr, w.heap[j]? ≠ some (.cells cs 5 fr)) → w'.heap[j]? = w.heap[j]?
theorem Aside.trans {b : Nat} {w w' w'' : World} (h : Aside b w w') (k : Aside b w' w'') : Aside b w w'' := by
  refine ⟨Nat.le_trans h.1 k.1, fun j hj hne ht => ?_⟩
  have e := h.2 j hj hne ht
  rw [k.2 j (Nat.lt_of_lt_of_le hj h.1) hne (by rw [e]; exact ht), e]
theorem Aside.of_below {b : Nat} {w w' : World} (h : Below w.heap.size w w') : Aside b w w' := ⟨h.size, fun j hj _ _ => h.block j hj⟩
theorem Aside.refl (b : Nat) (w : World) : Aside b w w := Aside.of_below (Below.refl _ _)
/-- A block of its own kind, whole. -/
def Bx (w : World) (k : Nat) (T : TypeId) (cs : Array Value) : Prop := w.heap[k]? = some (.cells cs T (0, 0))
theorem Bx.new (w : World) (T : TypeId) (cs : Array Value) : Bx (w.alloc (.cells cs T)) w.heap.size T cs := by
  show (w.heap.push (.cells cs T (0, 0)))[w.heap.size]? = _
  simp
theorem Bx.lt {w : World} {k : Nat} {T : TypeId} {cs : Array Value} (h : Bx w k T cs) : k < w.heap.size := (Array.getElem?_eq_some_iff.1 h).1
theorem Bx.aside {w w' : World} {b k : Nat} {T : TypeId} {cs : Array Value} (h : Bx w k T cs) (ha : Aside b w w') (hT : T ≠ 5) (hk : k ≠ b) : Bx w' k T cs := by
  unfold Bx at *
  rw [ha.2 k (Bx.lt h) hk (fun cs' fr e => by rw [h] at e; injection e with e; injection e with _ e2 _; exact hT e2), h]
theorem Bx.below {w w' : World} {k : Nat} {T : TypeId} {cs : Array Value} (h : Bx w k T cs) (hb : Below w.heap.size w w') : Bx w' k T cs := by
  unfold Bx at *
  rw [hb.block k (Bx.lt h), h]
theorem Bx.cell {w : World} {k : Nat} {T : TypeId} {cs : Array Value} (h : Bx w k T cs) (i : Nat) : w.cell? ⟨k, i, none⟩ = cs[i]? := Lib.cell_of_heap h i
def Wr (B b : Nat) (bs : List UInt8) (w : World) : Prop := Lib.IsBuilder 67 5 B b (Lib.byteCells bs) w
theorem Wr.below {B b : Nat} {bs : List UInt8} {w w' : World} (h : Wr B b bs w) (hb : Below w.heap.size w w') : Wr B b bs w' := by
  have key : ∀ p, Lib.BuilderAt 67 5 B b p (Lib.byteCells bs) w → Lib.BuilderAt 67 5 B b p (Lib.byteCells bs) w' := by
    rintro p ⟨hB, v, h1, h2, h3⟩
    exact ⟨hB, v, by rw [hb.block b (Array.getElem?_eq_some_iff.1 h1).1]; exact h1, World.ownsRow.kept (row := none) h2 ⟨hb.os, hb.tape, hb.output, hb.size, fun i hi _ => hb.block i hi⟩ (Classical.em _), h3⟩
  exact h.imp (key _) (key _)
theorem Wr.lt {B b : Nat} {bs : List UInt8} {w : World} (h : Wr B b bs w) : b < w.heap.size := by
  rcases h with h | h
  · exact Lib.BuilderAt.lt h
  · exact Lib.BuilderAt.lt h
theorem Wr.le {B b : Nat} {bs : List UInt8} {w : World} (h : Wr B b bs w) : B ≤ b := by
  rcases h with h | h
  · exact h.1
  · exact h.1
theorem bSizeY : (Tryd.prog.info? 67).map (·.size) = some 2 := by kernel_rfl
theorem copyCheck_aside (B b : Nat) (bs : List Value) (w : World) (h : Lib.IsBuilder 67 5 B b bs w) :
    Calls Tryd.prog 78 #[.pointer (some ⟨b, 0, none⟩)] w fun e w' => e = .returned (.tuple #[]) ∧ (Lib.BuilderAt 67 5 B b (.pointer (some ⟨b, 0, none⟩)) bs w' ∧ Below B w w') ∧ Aside b w w' := by
  rcases h with h | h
  · refine (copyCheck_fresh b w h.cell0 h.shape h.frozen0).mono ?_
    rintro e w' ⟨rfl, rfl⟩
    have hbb := (Below.refl b w).setCell (p := ⟨b, 0, none⟩) (Nat.le_refl b) (.pointer (some ⟨b, 0, none⟩))
    refine ⟨rfl, ⟨h.used _, (Below.refl B w).setCell (p := ⟨b, 0, none⟩) h.1 _⟩, ⟨hbb.size, fun j hj hne _ => ?_⟩⟩
    exact Below.heap_setCell _ _ _ j hne
  · refine (copyCheck_used b w h.cell0).mono ?_
    rintro e w' ⟨rfl, rfl⟩
    exact ⟨rfl, ⟨h, Below.refl B _⟩, Aside.refl _ _⟩
set_option maxHeartbeats 2000000 in
theorem writeString_aside (B b : Nat) (bs : List Value) (s : ByteArray) (w : World) (h : Lib.IsBuilder 67 5 B b bs w) (hlen : bs.length + s.size ≤ 140737488355328) (hBw : B ≤ w.heap.size) :
    Calls Tryd.prog 53 #[.pointer (some ⟨b, 0, none⟩), .string s] w fun e w' => e = .returned (.tuple #[.int .i64 s.size, .nilIface]) ∧ (Lib.BuilderAt 67 5 B b (.pointer (some ⟨b, 0, none⟩)) (bs ++ Lib.strCells s) w' ∧ Below B w w') ∧ Aside b w w' := by
  obtain ⟨i0, hi, hz0, hz1, hz2⟩ := info_parts byteInfo
  go_enter Tryd.func53, Tryd.ntmps53
  go_wp2_with (go_at_call 78; refine (copyCheck_aside B b bs _ h).mono ?_)
  rintro e w1 ⟨rfl, ⟨h1, hb1⟩, ha1⟩
  obtain ⟨hB, v, hbk, hown, hne⟩ := h1
  have c0 : w1.cell? ⟨b, 0, none⟩ = some (.pointer (some ⟨b, 0, none⟩)) := by rw [Lib.cell_of_heap hbk]; rfl
  have c1 : w1.cell? ⟨b, 1, none⟩ = some v := by rw [Lib.cell_of_heap hbk]; rfl
  have HA1 := Lib.hid ha1
  clear ha1
  go_wp2_with (at_builtin; refine Lib.wpList_append_own_string _ rfl _ _ 65 9 rfl B 5 i0 Tryd.underlying65 Tryd.underlying9 hi hz0 hz1 hz2 _ _ _ rfl hown s rfl ?c3 ?c4 ?c5 ?_)
  case c3 => unfold maxLen; omega
  case c4 => omega
  case c5 => have := hb1.size; omega
  intro v' w2 hown' hgrow _
  have hlt : b < w1.heap.size := by
    rcases Nat.lt_or_ge b w1.heap.size with h' | h'
    · exact h'
    · simp [Array.getElem?_eq_none h'] at hbk
  have hb2 : w2.heap[b]? = some (.cells #[.pointer (some ⟨b, 0, none⟩), v] 67 (0, 0)) := by
    rw [hgrow.block b hlt (fun e => hne e.symm)]
    exact hbk
  have HA2 := Lib.hid (show Aside b w1 w2 from ⟨hgrow.size, fun j hj hjb ht => hgrow.block j hj (fun e => by
    rcases hown.2 with ⟨ev, _⟩ | ⟨g, cap, cur, ev, _, hc, _⟩
    · subst ev; cases e
    · subst ev
      obtain rfl : j = g := by injection e
      exact ht _ _ hc)⟩)
  have d0 : w2.cell? ⟨b, 0, none⟩ = some (.pointer (some ⟨b, 0, none⟩)) := by rw [Lib.cell_of_heap hb2]; rfl
  have d1 : w2.cell? ⟨b, 1, none⟩ = some v := by rw [Lib.cell_of_heap hb2]; rfl
  have f1 : w2.frozen? ⟨b, 1, none⟩ = false := Lib.frozen_of_heap hb2 1
  obtain ⟨ao, n', cap, rfl⟩ : ∃ ao n' cap, v' = .slice ao n' cap := by
    rcases hown'.2 with ⟨hv, _⟩ | ⟨g, cap, cur, hv, _⟩
    · exact ⟨_, _, _, hv⟩
    · exact ⟨_, _, _, hv⟩
  go_wp2
  go_ret2
  refine ⟨rfl, ⟨?_, ?_⟩, ?_⟩
  · exact Lib.BuilderAt.put (T := 67) (e := 5) hB hb2 (bs' := bs ++ Lib.strCells s) (by simpa [Lib.strCells_length] using hown') (by decide)
  · exact (hb1.grown hgrow (by have := hb1.size; omega) (fun k hk => (hown.lt k hk).1)).setCell (p := ⟨b, 1, none⟩) hB _
  · refine (HA1.out.trans HA2.out).trans ⟨((Below.refl b w2).setCell (p := ⟨b, 1, none⟩) (Nat.le_refl b) _).size, fun j hj hjb _ => Below.heap_setCell _ _ _ j hjb⟩
/-- A text has been written behind another one. -/
structure Wrote (B b : Nat) (bs l : List UInt8) (w : World) (e : Ending) (w' : World) : Prop where
  eq : e = .returned (.tuple #[])
  wr : Wr B b (bs ++ l) w'
  below : Below B w w'
  aside : Aside b w w'
/-- What is there while texts are written: tables that stand below the builder. -/
structure TE (B : Nat) (w : World) : Prop where
  le : B ≤ w.heap.size
  tabs : ∀ W, Below B w W → (Lib.TabIs Tryd.prog W "internal/strconv.uint64pow10" .u64 Lib.pow10Tab) ∧ InsT W ∧ JmpT W
theorem TE.next {B : Nat} {w w' : World} (h : TE B w) (hb : Below B w w') : TE B w' := ⟨Nat.le_trans h.le hb.size, fun W hW => h.tabs W (hb.trans hW)⟩
theorem ws_any (B b : Nat) (bs l : List UInt8) (s : ByteArray) (hs : s = tx l) (w : World) (h : Wr B b bs w) (hlen : bs.length + l.length ≤ 140737488355328) (hB : B ≤ w.heap.size) :
    Calls Tryd.prog 53 #[.pointer (some ⟨b, 0, none⟩), .string s] w fun e w' => e = .returned (.tuple #[.int .i64 s.size, .nilIface]) ∧ Wr B b (bs ++ l) w' ∧ Below B w w' ∧ Aside b w w' := by
  have hz := tx_size l
  refine (writeString_aside B b (Lib.byteCells bs) s w h (by rw [Lib.byteCells_length, hs]; omega) hB).mono ?_
  rintro e w' ⟨he, ⟨h1, h2⟩, h3⟩
  refine ⟨he, ?_, h2, h3⟩
  subst hs
  unfold Wr
  rw [Lib.byteCells_append]
  exact .inr h1
theorem itoa_te (B : Nat) (n : Int) (h : SmN n) (w : World) (hE : TE B w) : Calls Tryd.prog 54 #[.int .i64 n] w (TxRet (Lib.itoa n) w) := by
  unfold SmN at h
  exact (Tryd.strconv_Itoa n (by omega) (by omega) w (hE.tabs w (Below.refl _ _)).1).mono fun e w' ⟨he, k, os, hw⟩ => ⟨he, by subst hw; exact Lib.below_grow _ _ (Nat.le_refl _) k os⟩
set_option maxHeartbeats 1000000 in
theorem regText_any (B : Nat) (n : Int) (h : SmN n) (w : World) (hE : TE B w) : Calls Tryd.prog 80 #[.int .i64 n] w (TxRet (114 :: Lib.itoa n) w) := by
  have C := Lib.hid (itoa_te B n h w hE)
  have HT := Lib.hid (show (⟨#[114]⟩ : ByteArray) ++ tx (Lib.itoa n) = tx (114 :: Lib.itoa n) from tx_cons 114 _)
  have hz := tx_size (Lib.itoa n)
  have hl := itoaS h
  unfold TxRet at *
  generalize tx (Lib.itoa n) = t at *
  have ht : t.size ≤ 20 := by omega
  clear hz hl h hE
  go_enter Tryd.func80, Tryd.ntmps80
  go_wp2_with fail
  (with_reducible refine Calls.mono C.out ?_)
  rintro ee w1 ⟨rfl, hb1⟩
  go_wp2_with fail
  go_ret
  exact ⟨by rw [← HT.out]; rfl, hb1⟩
set_option maxHeartbeats 2000000 in
theorem writeRegs_any (B b : Nat) (bs : List UInt8) (xs : List Int) (hx : ∀ x ∈ xs, SmN x) (A : Option Addr) (cap : Nat) (w : World) (hE : TE B w) (hW : Wr B b bs w) (hRA : ∀ W, Below B w W → Aside b w W → NumS W (Lt W.heap.size) xs A) (hl : bs.length ≤ 100000000000) (hn : xs.length ≤ 1048576) :
    Calls Tryd.prog 81 #[.pointer (some ⟨b, 0, none⟩), .slice A xs.length cap] w (Wrote B b bs (catT regT xs) w) := by
  have HE := Lib.hid hE
  have HW := Lib.hid hW
  have HR := Lib.hid hRA
  have HX := Lib.hid hx
  clear hE hW hRA hx
  go_enter Tryd.func81, Tryd.ntmps81
  go_wp2_with fail
  go_loopw [8] (fun i wr => ∃ k : Nat, k ≤ xs.length ∧ i = .int .i64 k ∧ Wr B b (bs ++ catT regT (xs.take k)) wr ∧ Below B w wr ∧ Aside b w wr) (fun i _ => xs.length - (intOf i).toNat)
  case atStart => exact ⟨0, Nat.zero_le _, rfl, by rw [List.take_zero]; show Wr B b (bs ++ []) w; rw [List.append_nil]; exact HW.out, Below.refl _ _, Aside.refl _ _⟩
  case round =>
    clear HW
    obtain ⟨k, hk, rfl, hw, hb, ha⟩ := hrel
    have HWk := Lib.hid hw
    have HA := Lib.hid ha
    clear hw ha
    by_cases hlt : k < xs.length
    · obtain ⟨bb, o, rfl, hB, c0⟩ := (HR.out wr hb HA.out).at_ hlt
      have hs : SmN xs[k] := HX.out _ (List.getElem_mem hlt)
      have hpre := regsT_le (l := xs.take k) (fun x h => HX.out x (List.mem_of_mem_take h))
      rw [List.length_take] at hpre
      have HN := Lib.hid (catT_take regT hlt)
      have C := Lib.hid (regText_any B xs[k] hs wr (HE.out.next hb))
      have hTE := (HE.out.next hb).le
      have HT := Lib.hid (show (⟨#[32]⟩ : ByteArray) ++ tx (114 :: Lib.itoa xs[k]) = tx (regT xs[k]) from tx_cons 32 _)
      have hq := regT_le hs
      have hz := tx_size (114 :: Lib.itoa xs[k])
      have hi := itoaS hs
      rw [List.length_cons] at hz
      have WS := fun W (h : Below wr.heap.size wr W) => Lib.hid (ws_any B b (bs ++ catT regT (xs.take k)) (regT xs[k]) _ HT.out W (HWk.out.below h) (by rw [List.length_append]; omega) (by have := h.size; omega))
      unfold TxRet at C
      generalize tx (114 :: Lib.itoa xs[k]) = t at *
      generalize regT xs[k] = rt at *
      generalize xs[k] = x at *
      have ht : t.size ≤ 21 := by omega
      clear hz hi hs hpre hq
      go_wp2_with fail
      (with_reducible refine Calls.mono C.out ?_)
      rintro ee w1 ⟨rfl, hb1⟩
      have WS1 := Lib.hid (WS w1 hb1).out
      have hb2 := hb.trans (hb1.mono hTE)
      have HA2 := Lib.hid (HA.out.trans (Aside.of_below hb1))
      clear hb1 WS HA c0
      go_wp2_with fail
      (with_reducible refine Calls.mono WS1.out ?_)
      rintro ee w2 ⟨rfl, hw2, hb3, ha3⟩
      have HW2 := Lib.hid hw2
      have HA3 := Lib.hid (HA2.out.trans ha3)
      have hb4 := hb2.trans hb3
      clear hw2 ha3 hb3
      go_wp2_with fail
      go_roundw
      case rel => exact ⟨k + 1, by omega, by go_num, by rw [HN.out, ← List.append_assoc]; exact HW2.out, hb4, HA3.out⟩
      case measure => simp only [intOf]; omega
    · obtain rfl : k = xs.length := by omega
      have HT := Lib.hid (List.take_length (l := xs))
      go_wp2_with fail
      go_end0
      exact ⟨rfl, by have := HWk.out; rw [HT.out] at this; exact this, hb, HA.out⟩
end Go.Proofs.YtomhomnibikceaaDoor
