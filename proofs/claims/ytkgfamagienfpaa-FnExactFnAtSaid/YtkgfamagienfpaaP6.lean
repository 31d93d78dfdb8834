/-
  FnAt of the model and of the program.
-/
import Derived.Test.YtkgfamagienfpaaP5
namespace Go.Proofs.Ytkgfamagienfpaa
open Go.RowKit
set_option maxRecDepth 100000

/-- The index of the first function with a name, or -1. -/
def fnAtI (p : List Fu) (s : ByteArray) : Int := match p.findIdx? (fun f => decide (f.name = s)) with | some i => (i : Int) | none => -1
def noFn (p : List Fu) (s : ByteArray) (k : Nat) : Prop := ∀ j, (h : j < p.length) → j < k → p[j].name ≠ s
theorem noFn_succ {p : List Fu} {s : ByteArray} {k : Nat} (h : noFn p s k) (hk : k < p.length) (hne : p[k].name ≠ s) : noFn p s (k + 1) := by
  intro j hj hjk
  by_cases e : j = k
  · subst e; exact hne
  · exact h j hj (by omega)
theorem fnAtI_hit {p : List Fu} {s : ByteArray} {k : Nat} (h : noFn p s k) (hk : k < p.length) (he : p[k].name = s) : fnAtI p s = k := by
  unfold fnAtI
  have : p.findIdx? (fun f => decide (f.name = s)) = some k := by
    rw [List.findIdx?_eq_some_iff_getElem]
    exact ⟨hk, by simpa using he, fun j hj => by simpa using h j (by omega) hj⟩
  rw [this]
theorem fnAtI_miss {p : List Fu} {s : ByteArray} (h : noFn p s p.length) : fnAtI p s = -1 := by
  unfold fnAtI
  have : p.findIdx? (fun f => decide (f.name = s)) = none := by
    rw [List.findIdx?_eq_none_iff]
    intro f hf
    obtain ⟨j, hj, rfl⟩ := List.getElem_of_mem hf
    simpa using h j hj hj
  rw [this]
set_option maxHeartbeats 1000000 in
theorem specFnAt_any (p : List Fu) (s : ByteArray) (hn : p.length ≤ 1048576) (v : Value) (w : World) (hV : PrV w (Lt w.heap.size) p v) :
    Calls Try.prog 6 #[v, .string s] w (IntB (fnAtI p s) w) := by
  obtain ⟨A, c, rfl, hR⟩ := hV
  have HR := Lib.hid hR
  clear hR
  have c0 := alloc_cell w #[.slice A p.length c] 29 (0, 0) 0
  have hlt : w.heap.size < (w.alloc (.cells #[.slice A p.length c] 29)).heap.size := by rw [World.size_alloc]; omega
  have hb0 : Below w.heap.size w (w.alloc (.cells #[.slice A p.length c] 29)) := (Below.refl _ _).alloc (Nat.le_refl _) _
  replace c0 : (w.alloc (.cells #[.slice A p.length c] 29)).cell? ⟨w.heap.size, 0, none⟩ = some (.slice A p.length c) := c0
  go_enter Try.func6, Try.ntmps6
  go_wp2_with fail
  generalize w.alloc (.cells #[.slice A p.length c] 29) = wa at *
  go_loopw [5] (fun i wr => ∃ (k : Nat), k ≤ p.length ∧ i = .int .i64 k ∧ noFn p s k ∧ Below wa.heap.size wa wr) (fun i _ => p.length - (intOf i).toNat)
  case atStart => exact ⟨0, Nat.zero_le _, rfl, fun j _ hj => absurd hj (by omega), Below.refl _ _⟩
  case round =>
    obtain ⟨k, hk, rfl, hno, hb⟩ := hrel
    have HN := Lib.hid hno
    clear hno
    have g0 := (hb.cell (p := ⟨w.heap.size, 0, none⟩) hlt).trans c0
    have hbw := hb0.trans (hb.mono (Nat.le_of_lt hlt))
    by_cases hlk : k < p.length
    · obtain ⟨b, o, rfl, hB, d0, _, _⟩ := (HR.out.on hbw hbw.size).at_ hlk
      generalize hkd : p[k] = f at d0
      have HKD := Lib.hid hkd
      clear hkd
      generalize hfn : f.name = t at *
      have HF := Lib.hid hfn
      clear hfn
      by_cases he : t = s
      · have q1 := str_eq_true he
        have HE := Lib.hid he
        clear he
        go_wp2_with fail
        go_ret
        exact ⟨ret_int' (fnAtI_hit HN.out hlk (by rw [HKD.out, HF.out, HE.out])).symm, hbw⟩
      · have q1 := str_eq_false he
        have HE := Lib.hid he
        clear he
        go_wp2_with fail
        go_roundw
        case rel => exact ⟨k + 1, by omega, by go_num, noFn_succ HN.out hlk (by rw [HKD.out, HF.out]; exact HE.out), hb⟩
        case measure => simp only [intOf]; omega
    · obtain rfl : k = p.length := by omega
      go_wp2_with fail
      go_ret
      exact ⟨ret_int' (fnAtI_miss HN.out).symm, hbw⟩
set_option maxHeartbeats 1000000 in
theorem fnNamed_any (f : Fu) (s : ByteArray) (g : Nat) (v : Value) (w : World) (hV : ∃ A1 c1 A2 c2, v = .agg #[.string f.name, .slice A1 f.params.length c1, .slice A2 f.body.length c2]) (hg : w.cell? ⟨g, 0, none⟩ = some (.string s)) (hlt : g < w.heap.size) :
    Calls Try.prog 15 #[v, .pointer (some ⟨g, 0, none⟩)] w (BoolB (decide (f.name = s)) w) := by
  obtain ⟨A1, c1, A2, c2, rfl⟩ := hV
  have hb : Below w.heap.size w (w.alloc (.cells #[.string f.name, .slice A1 f.params.length c1, .slice A2 f.body.length c2] 38)) := (Below.refl _ _).alloc (Nat.le_refl _) _
  have hg2 := (hb.cell (p := ⟨g, 0, none⟩) hlt).trans hg
  by_cases he : f.name = s
  · have q1 := str_eq_true he
    rw [decide_eq_true he]
    clear he
    generalize f.name = t at *
    go_enter Try.func15, Try.ntmps15
    go_wp2_with fail
    go_ret
    exact ⟨rfl, hb⟩
  · have q1 := str_eq_false he
    rw [decide_eq_false he]
    clear he
    generalize f.name = t at *
    go_enter Try.func15, Try.ntmps15
    go_wp2_with fail
    go_ret
    exact ⟨rfl, hb⟩
set_option maxHeartbeats 1000000 in
theorem indexFunc_any (p : List Fu) (s : ByteArray) (hn : p.length ≤ 1048576) (A : Option Addr) (c g : Nat) (w : World) (hR : FuS w (Lt w.heap.size) p A) (hg : w.cell? ⟨g, 0, none⟩ = some (.string s)) (hlt : g < w.heap.size) :
    Calls Try.prog 14 #[.slice A p.length c, .func (.func 15) #[] #[.pointer (some ⟨g, 0, none⟩)]] w (IntB (fnAtI p s) w) := by
  have HR := Lib.hid hR
  clear hR
  go_enter Try.func14, Try.ntmps14
  go_wp2_with fail
  go_loopw [8] (fun i wr => ∃ (k : Nat), k ≤ p.length ∧ i = .int .i64 k ∧ noFn p s k ∧ Below w.heap.size w wr) (fun i _ => p.length - (intOf i).toNat)
  case atStart => exact ⟨0, Nat.zero_le _, rfl, fun j _ hj => absurd hj (by omega), Below.refl _ _⟩
  case round =>
    obtain ⟨k, hk, rfl, hno, hb⟩ := hrel
    have HN := Lib.hid hno
    clear hno
    by_cases hlk : k < p.length
    · obtain ⟨b, o, rfl, hB, d0, ⟨A1, c1, d1, _⟩, A2, c2, d2, _⟩ := (HR.out.on hb hb.size).at_ hlk
      generalize hkd : p[k] = f at d0 d1 d2
      have HKD := Lib.hid hkd
      clear hkd
      have hg1 := (hb.cell (p := ⟨g, 0, none⟩) hlt).trans hg
      have CC := fnNamed_any f s g _ wr ⟨A1, c1, A2, c2, rfl⟩ hg1 (Nat.lt_of_lt_of_le hlt hb.size)
      by_cases he : f.name = s
      · rw [decide_eq_true he] at CC
        replace CC := Lib.hid CC
        have HE := Lib.hid he
        clear he hg1
        generalize f.name = t at d0 CC
        generalize f.params.length = n1 at *
        generalize f.body.length = n2 at *
        go_wp2_with fail
        (with_reducible refine Calls.mono CC.out ?_)
        rintro ee w2 ⟨rfl, hb2⟩
        have hb3 := hb.trans (hb2.mono hb.size)
        go_wp2_with fail
        go_ret
        exact ⟨ret_int' (fnAtI_hit HN.out hlk (by rw [HKD.out, HE.out])).symm, hb3⟩
      · rw [decide_eq_false he] at CC
        replace CC := Lib.hid CC
        have HE := Lib.hid he
        clear he hg1
        generalize f.name = t at d0 CC
        generalize f.params.length = n1 at *
        generalize f.body.length = n2 at *
        go_wp2_with fail
        (with_reducible refine Calls.mono CC.out ?_)
        rintro ee w2 ⟨rfl, hb2⟩
        have hb3 := hb.trans (hb2.mono hb.size)
        go_wp2_with fail
        go_roundw
        case rel => exact ⟨k + 1, by omega, by go_num, noFn_succ HN.out hlk (by rw [HKD.out]; exact HE.out), hb3⟩
        case measure => simp only [intOf]; omega
    · obtain rfl : k = p.length := by omega
      go_wp2_with fail
      go_ret
      exact ⟨ret_int' (fnAtI_miss HN.out).symm, hb⟩
set_option maxHeartbeats 1000000 in
theorem implFnAt_any (p : List Fu) (s : ByteArray) (hn : p.length ≤ 1048576) (v : Value) (w : World) (hV : PrV w (Lt w.heap.size) p v) :
    Calls Try.prog 8 #[v, .string s] w (IntB (fnAtI p s) w) := by
  obtain ⟨A, c, rfl, hR⟩ := hV
  have hb := two_boxes w (.cells #[.slice A p.length c] 29) (.cells #[.string s] 9)
  have s1 : (w.alloc (.cells #[.slice A p.length c] 29)).heap.size = w.heap.size + 1 := World.size_alloc _ _
  have hg := alloc_cell (w.alloc (.cells #[.slice A p.length c] 29)) #[.string s] 9 (0, 0) 0
  rw [s1] at hg
  have CI := Lib.hid (indexFunc_any p s hn A c (w.heap.size + 1) _ (hR.on hb hb.size) hg (by rw [World.size_alloc, s1]; omega))
  clear hR hg
  have hbs := hb.size
  go_enter Try.func8, Try.ntmps8
  go_wp2_with fail
  (with_reducible refine Calls.mono CI.out ?_)
  rintro ee w2 ⟨rfl, hb2⟩
  have hb3 := hb.trans (hb2.mono hbs)
  go_wp2_with fail
  go_ret
  exact ⟨rfl, hb3⟩
theorem specFnAt_b (p : List Fu) (s : ByteArray) (hl : bulkFL p ≤ 1048576) (v : Value) (w : World) (hV : PrV w (Lt w.heap.size) p v) :
    Calls Try.prog 6 #[v, .string s] w (IntB (fnAtI p s) w) := specFnAt_any p s (by have := length_le_bulkFL p; omega) v w hV
theorem implFnAt_b (p : List Fu) (s : ByteArray) (hl : bulkFL p ≤ 1048576) (v : Value) (w : World) (hV : PrV w (Lt w.heap.size) p v) :
    Calls Try.prog 8 #[v, .string s] w (IntB (fnAtI p s) w) := implFnAt_any p s (by have := length_le_bulkFL p; omega) v w hV
end Go.Proofs.Ytkgfamagienfpaa
