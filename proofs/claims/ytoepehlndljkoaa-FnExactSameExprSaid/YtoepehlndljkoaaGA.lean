/-
  A set of pairs of lists of Kids, as the program keeps it: what it finds, what it adds.
-/
import Derived.Test.YtoepehlndljkoaaGZ
import Derived.LaidEqlPtr
import Derived.Maps.Own
import Derived.Laws.StructEq
namespace Go.Proofs.Ytoepehlndljkoaa
open Go.RowKit
set_option maxRecDepth 100000

/-- Two lists of Kids: where they lie, and how many there are. -/
structure KP where
  b : Nat
  o : Nat
  b' : Nat
  o' : Nat
  n : Nat
theorem KP.ext' {k l : KP} (h1 : k.b = l.b) (h2 : k.o = l.o) (h3 : k.b' = l.b') (h4 : k.o' = l.o') (h5 : k.n = l.n) : k = l := by
  cases k; cases l; simp_all
def KP.v (k : KP) : Value := .agg #[.pointer (some ⟨k.b, k.o, none⟩), .pointer (some ⟨k.b', k.o', none⟩), .int .i64 (k.n : Int)]
def KP.flat (k : KP) (w : World) : Prop := Flat w k.b ∧ Flat w k.b'
theorem pairFields : (Try.prog.fieldsOf 44).toList.map (fun f => (f.name, f.type, f.offset)) = [("a", 42, 0), ("b", 42, 1), ("n", 3, 2)] := by kernel_rfl
theorem part_at (a b c : Value) (w : World) : (part 42 #[a, b, c] 0).run Try.prog w = .ok a w ∧ (part 42 #[a, b, c] 1).run Try.prog w = .ok b w ∧ (part 3 #[a, b, c] 2).run Try.prog w = .ok c w := by
  refine ⟨?_, ?_, ?_⟩ <;> kernel_rfl
open Classical in
theorem ptr_equal (d : Nat) (w : World) (x y : Addr) (hx : Flat w x.block) (hy : Flat w y.block) :
    (Op.equalIn (d + 1) 42 (.pointer (some x)) (.pointer (some y))).run Try.prog w = .ok (decide (x = y)) w := by
  obtain ⟨i0, hi, _, hz1, _⟩ := info_parts exprInfo
  have hsz : i0.size ≠ 0 := by rw [hz1]; decide
  obtain ⟨ca, ta, ha⟩ := hx
  obtain ⟨cb, tb, hb⟩ := hy
  by_cases h : x = y
  · subst h
    simp [Op.equalIn, run_underlying Try.underlying42, sizeOf, typeInfo, hi, run_sameAddr_same]
  · simp [Op.equalIn, run_underlying Try.underlying42, sizeOf, typeInfo, hi, hsz, run_sameAddr_other w h ha hb, h]
open Classical in
theorem key_equal (w : World) (k l : KP) (hk : k.flat w) (hl : l.flat w) : (Op.equal 44 k.v l.v).run Try.prog w = .ok (decide (k = l)) w := by
  obtain ⟨f0, f1, f2, hf, e0, e1, e2, e3, e4, e5, e6, e7, e8⟩ : ∃ f0 f1 f2 : Field, (Try.prog.fieldsOf 44).toList = [f0, f1, f2] ∧ f0.name = "a" ∧ f0.type = 42 ∧ f0.offset = 0 ∧ f1.name = "b" ∧ f1.type = 42 ∧ f1.offset = 1 ∧ f2.name = "n" ∧ f2.type = 3 ∧ f2.offset = 2 := by
    have h := pairFields
    generalize (Try.prog.fieldsOf 44).toList = l at *
    match l, (show l.length = 3 by simpa using congrArg List.length h), h with
    | [f0, f1, f2], _, h =>
      simp only [List.map_cons, List.map_nil, List.cons.injEq, Prod.mk.injEq, and_true] at h
      obtain ⟨⟨a, b, c⟩, ⟨a', b', c'⟩, a'', b'', c''⟩ := h
      exact ⟨f0, f1, f2, rfl, a, b, c, a', b', c', a'', b'', c''⟩
  show (Op.equalIn (9999 + 1) 44 k.v l.v).run Try.prog w = _
  unfold KP.v
  rw [run_equalIn_agg _ _ _ _ _ (by kernel_rfl) (by kernel_rfl), hf]
  obtain ⟨p0, p1, p2⟩ := part_at (.pointer (some ⟨k.b, k.o, none⟩)) (.pointer (some ⟨k.b', k.o', none⟩)) (.int .i64 (k.n : Int)) w
  obtain ⟨q0, q1, q2⟩ := part_at (.pointer (some ⟨l.b, l.o, none⟩)) (.pointer (some ⟨l.b', l.o', none⟩)) (.int .i64 (l.n : Int)) w
  have r0 := ptr_equal 9998 w ⟨k.b, k.o, none⟩ ⟨l.b, l.o, none⟩ hk.1 hl.1
  have r1 := ptr_equal 9998 w ⟨k.b', k.o', none⟩ ⟨l.b', l.o', none⟩ hk.2 hl.2
  have r2 := run_equalIn_int (P := Try.prog) w 9998 3 .i64 .i64 (k.n : Int) (l.n : Int) Try.underlying3
  have n0 : ("a" ≠ "_") = True := by decide
  have n1 : ("b" ≠ "_") = True := by decide
  have n2 : ("n" ≠ "_") = True := by decide
  simp only [Op.eqFields, e0, e1, e2, e3, e4, e5, e6, e7, e8, n0, n1, n2, if_true, Sem.run_bind, p0, q0, Result.andThen_ok, r0]
  by_cases h0 : (⟨k.b, k.o, none⟩ : Addr) = ⟨l.b, l.o, none⟩
  · have d0 := decide_eq_true h0
    simp only [d0, Bool.not_true, Bool.false_eq_true, if_false, Sem.run_bind, p1, q1, Result.andThen_ok, r1]
    by_cases h1 : (⟨k.b', k.o', none⟩ : Addr) = ⟨l.b', l.o', none⟩
    · have d1 := decide_eq_true h1
      simp only [d1, Bool.not_true, Bool.false_eq_true, if_false, Sem.run_bind, p2, q2, Result.andThen_ok, r2]
      by_cases h2 : k.n = l.n
      · have h3 : k = l := by
          injection h0 with a b
          injection h1 with c d
          exact KP.ext' a b c d h2
        have d2 : ((k.n : Int) == (l.n : Int)) = true := beq_yes (by omega)
        rw [d2, decide_eq_true h3]
        rfl
      · have h3 : k ≠ l := fun e => h2 (by rw [e])
        have d2 : ((k.n : Int) == (l.n : Int)) = false := beq_no (by omega)
        rw [d2, decide_eq_false h3]
        rfl
    · have h3 : k ≠ l := fun e => h1 (by rw [e])
      rw [decide_eq_false h1, decide_eq_false h3]
      rfl
  · have h3 : k ≠ l := fun e => h0 (by rw [e])
    rw [decide_eq_false h0, decide_eq_false h3]
    rfl
/-- The set's block. -/
def Seen (w : World) (R : Nat) (K : List KP) : Prop := ∃ es clock, w.heap[R]? = some (.map es clock) ∧ es.toList.map (·.key) = K.map KP.v ∧ ∀ e ∈ es.toList, e.val = .bool true
open Classical in
theorem find_asking (w : World) (k : KP) (hk : k.flat w) : ∀ (es : List MapEntry) (K : List KP) (i : Nat), es.map (·.key) = K.map KP.v → (∀ x ∈ K, x.flat w) → (∀ e ∈ es, e.val = .bool true) →
    (k ∈ K ∧ ∃ j, (Instr.findAsking 44 k.v es i).run Try.prog w = .ok (some (j, .bool true)) w) ∨ (k ∉ K ∧ (Instr.findAsking 44 k.v es i).run Try.prog w = .ok none w)
  | [], K, i, h, _, _ => by
    cases K with
    | nil => exact .inr ⟨by simp, rfl⟩
    | cons _ _ => cases h
  | e :: es, K, i, h, hf, hv => by
    cases K with
    | nil => cases h
    | cons x K =>
      simp only [List.map_cons, List.cons.injEq] at h
      have hq := key_equal w k x hk (hf x (by simp))
      have ih := find_asking w k hk es K (i + 1) h.2 (fun y hy => hf y (by simp [hy])) (fun y hy => hv y (by simp [hy]))
      have hve := hv e (by simp)
      simp only [Instr.findAsking, Sem.run_bind, h.1, hq, Result.andThen_ok]
      by_cases hkx : k = x
      · rw [decide_eq_true hkx]
        exact .inl ⟨by simp [hkx], i, by simp [hve]⟩
      · rw [decide_eq_false hkx]
        rcases ih with ⟨h1, j, h2⟩ | ⟨h1, h2⟩
        · exact .inl ⟨by simp [h1], j, by simpa using h2⟩
        · exact .inr ⟨by simp [h1, hkx], by simpa using h2⟩
open Classical in
theorem find_key (w : World) (k : KP) (hk : k.flat w) (es : List MapEntry) (K : List KP) (h : es.map (·.key) = K.map KP.v) (hf : ∀ x ∈ K, x.flat w) (hv : ∀ e ∈ es, e.val = .bool true) :
    (k ∈ K ∧ ∃ j, (Instr.findKey 44 k.v es).run Try.prog w = .ok (some (j, .bool true)) w) ∨ (k ∉ K ∧ (Instr.findKey 44 k.v es).run Try.prog w = .ok none w) := by
  have key := find_asking w k hk es K 0 h hf hv
  cases es with
  | nil =>
    cases K with
    | nil => exact .inr ⟨by simp, rfl⟩
    | cons _ _ => cases h
  | cons e es =>
    have e0 : (Instr.findKey 44 k.v (e :: es)).run Try.prog w = (Instr.findAsking 44 k.v (e :: es) 0).run Try.prog w := by
      simp only [Instr.findKey, Sem.run_bind, run_underlying Try.underlying44, Result.andThen_ok, Instr.findNow, Instr.sameNow]
    rw [e0]
    exact key
theorem check_key (em : Bool) (k : KP) (w : World) : (Instr.checkKey em 10000 44 k.v).run Try.prog w = .ok () w := by
  unfold KP.v
  kernel_rfl
open Classical in
/-- The set is asked. -/
theorem seen_ask {w : World} {R : Nat} {K : List KP} (h : Seen w R K) (k : KP) (hk : k.flat w) (hf : ∀ x ∈ K, x.flat w) :
    (Instr.lookup 40 (.map (some R)) k.v false).run Try.prog w = .ok (.bool (decide (k ∈ K))) w := by
  obtain ⟨es, clock, hb, hkeys, hv⟩ := h
  have hz : (zeroValue 4).run Try.prog w = .ok (.bool false) w := by kernel_rfl
  rcases find_key w k hk es.toList K hkeys hf hv with ⟨h1, j, h2⟩ | ⟨h1, h2⟩
  · simp [Instr.lookup, run_underlying Try.underlying40, MapKept.run_getObj_map hb, check_key, h2, Result.andThen, h1]
  · simp [Instr.lookup, run_underlying Try.underlying40, MapKept.run_getObj_map hb, check_key, h2, hz, Result.andThen, h1]
/-- The set takes one more. -/
theorem seen_add {w : World} {R : Nat} {K : List KP} (h : Seen w R K) (k : KP) (hk : k.flat w) (hf : ∀ x ∈ K, x.flat w) (hno : k ∉ K) :
    ∃ w', (Instr.mapUpdate 40 (.map (some R)) k.v (.bool true)).run Try.prog w = .ok () w' ∧ Seen w' R (K ++ [k]) ∧ w.grownBy w' (some R) ∧ w'.heap.size = w.heap.size := by
  obtain ⟨es, clock, hb, hkeys, hv⟩ := h
  have hR : R < w.heap.size := (Array.getElem?_eq_some_iff.1 hb).1
  rcases find_key w k hk es.toList K hkeys hf hv with ⟨h1, _⟩ | ⟨_, h2⟩
  · exact absurd h1 hno
  · refine ⟨{ w with heap := w.heap.setIfInBounds R (.map (es.push { key := k.v, val := .bool true, born := clock }) (clock + 1)) }, ?_, ?_, ?_, ?_⟩
    · simp [Instr.mapUpdate, run_underlying Try.underlying40, MapKept.run_getObj_map hb, check_key, h2, MapKept.run_setObj_map _ hb, Result.andThen]
    · refine ⟨_, _, by show (w.heap.setIfInBounds R _)[R]? = _; rw [Array.getElem?_setIfInBounds_self_of_lt hR], ?_, ?_⟩
      · simp [hkeys]
      · intro e he
        simp at he
        rcases he with he | rfl
        · exact hv e (by simpa using he)
        · rfl
    · refine ⟨rfl, rfl, rfl, by simp, fun i hi hne => ?_⟩
      show (w.heap.setIfInBounds R _)[i]? = _
      rw [Array.getElem?_setIfInBounds_ne (by intro e; exact hne (by rw [e]))]
    · simp
end Go.Proofs.Ytoepehlndljkoaa
