/-
  What the laws' own helpers do with functions and programs: a copy in new memory.
-/
import Derived.Test.YtljdbjfbcjigaaaP2
import Derived.Test.YtljdbjfbcjigaaaT4
namespace Go.Proofs.Ytljdbjfbcjigaaa
open Go.RowKit
set_option maxRecDepth 100000

theorem StrS.put {w : World} {lo : Nat} {ks : List ByteArray} {A : Option Addr} (h : StrS w (Between w lo w.heap.size) ks A) {g : Nat} (hg : g < lo) (o : Nat) (v : Value) : StrS (w.setCell ⟨g, o, none⟩ v) (Between (w.setCell ⟨g, o, none⟩ v) lo (w.setCell ⟨g, o, none⟩ v).heap.size) ks A := by
  rw [show (w.setCell ⟨g, o, none⟩ v).heap.size = w.heap.size by simp]
  exact h.set' hg o v
theorem FuS.put {w : World} {lo : Nat} {ks : List Fu} {A : Option Addr} (h : FuS w (Between w lo w.heap.size) ks A) {g : Nat} (hg : g < lo) (o : Nat) (v : Value) : FuS (w.setCell ⟨g, o, none⟩ v) (Between (w.setCell ⟨g, o, none⟩ v) lo (w.setCell ⟨g, o, none⟩ v).heap.size) ks A := by
  rw [show (w.setCell ⟨g, o, none⟩ v).heap.size = w.heap.size by simp]
  exact h.set' hg o v
theorem strTypeInfo : (Try.prog.info? 9).map (fun i => (i.zero, i.size, i.bytes)) = some (some (.string ⟨#[]⟩), 1, 16) := by kernel_rfl
def sPart (ks : List ByteArray) (k : Nat) (xs : List Value) : Prop := xs.length = ks.length ∧ ∀ j, (h : j < ks.length) → j < k → xs[j]? = some (.string ks[j])
def ToSRet (ks : List ByteArray) (w : World) (ee : Ending) (w' : World) : Prop := (∃ A, ee = .returned (.slice A ks.length ks.length) ∧ StrS w' (Between w' w.heap.size w'.heap.size) ks A) ∧ Below w.heap.size w w'
set_option maxHeartbeats 2000000 in
theorem toStringS_any (ks : List ByteArray) (hn : ks.length ≤ 1048576) (A : Option Addr) (cap : Nat) (w : World) (hR : StrS w (Lt w.heap.size) ks A) :
    Calls Try.prog 26 #[.slice A ks.length cap] w (ToSRet ks w) := by
  have HR := Lib.hid hR
  clear hR
  obtain ⟨i0, hi, hz0, hz1, hz2⟩ := info_parts strTypeInfo
  go_enter Try.func26, Try.ntmps26
  go_wp2_with (first
    | (with_reducible refine wpList_make_full _ rfl _ _ 33 rfl w.heap.size 9 i0 (.string ⟨#[]⟩) 1 Try.underlying33 hi hz0 hz1 _ _ _ _ ks.length rfl rfl rfl rfl ?c1 ?c2 ?c3 ?_)
    | fail)
  case c1 => rw [hz2]; omega
  case c2 => unfold maxLen; omega
  case c3 => exact Nat.le_refl _
  intro w1 hown hgrow
  have hb0 : Below w.heap.size w w1 := (Below.refl _ _).grown hgrow (Nat.le_refl _) (fun k e => by cases e)
  obtain ⟨xs0, hown0, hp0⟩ : ∃ xs0, w1.ownsRow w.heap.size 9 1 (.slice (some ⟨w.heap.size, 0, none⟩) ks.length ks.length) ks.length xs0 ∧ sPart ks 0 xs0 := ⟨_, hown, by have := hown.1; simpa using this, fun j _ hj => absurd hj (by omega)⟩
  clear hown
  have HO0 := Lib.hid hown0
  have HP0 := Lib.hid hp0
  clear hown0 hgrow hp0
  go_wp2_with fail
  go_loopw [4] (fun i wr => ∃ (k : Nat) (xs : List Value), k ≤ ks.length ∧ i = .int .i64 k ∧ wr.ownsRow w.heap.size 9 1 (.slice (some ⟨w.heap.size, 0, none⟩) ks.length ks.length) ks.length xs ∧ sPart ks k xs ∧ Below w.heap.size w wr) (fun i _ => ks.length - (intOf i).toNat)
  case atStart => exact ⟨0, xs0, Nat.zero_le _, rfl, HO0.out, HP0.out, hb0⟩
  case round =>
    clear HO0 hb0 HP0
    obtain ⟨k, xs, hk, rfl, hown, hp, hb⟩ := hrel
    have hbs := hb.size
    by_cases hlt : k < ks.length
    · obtain ⟨b, o, rfl, hB, c0⟩ := (HR.out.on hb hbs).at_ hlt
      have HP := Lib.hid hp
      have hxl : xs.length = ks.length := hp.1
      clear hp
      generalize hkd : ks[k] = kid at c0
      have HKD := Lib.hid hkd
      clear hkd
      have d0 := hown.cellAt k (by omega)
      have f0 := hown.frozenAt k
      rw [List.getElem?_eq_getElem (by omega)] at d0
      generalize xs[k] = y0 at *
      have HO := Lib.hid hown
      have HXL := Lib.hid hxl
      clear hown hxl
      go_wp2_with fail
      go_roundw
      case rel =>
        have hs0 := HO.out.stored k (.string kid)
        refine ⟨k + 1, _, by omega, by go_num, hs0.1, ⟨by simpa using HXL.out, fun j hj hjk => ?_⟩, hb.setCell (Nat.le_refl _) _⟩
        rw [List.getElem?_set]
        by_cases e : k = j
        · subst e
          rw [if_pos rfl, if_pos (by have := HXL.out; omega), HKD.out]
        · rw [if_neg e]; exact HP.out.2 j hj (by omega)
      case measure => simp only [intOf]; omega
    · obtain rfl : k = ks.length := by omega
      have HO := Lib.hid (show StrS wr (Between wr w.heap.size wr.heap.size) ks (some ⟨w.heap.size, 0, none⟩) from .inr ⟨w.heap.size, 0, rfl, ⟨Nat.le_refl _, (hown.lt _ rfl).2, row_flat hown⟩, fun i hi => by
        rw [Nat.zero_add, hown.cellAt i (by omega)]; exact hp.2 i hi hi⟩)
      clear hown hp
      go_wp2_with fail
      go_ret
      exact ⟨⟨_, rfl, HO.out⟩, hb⟩
def ToFRet (f : Fu) (w : World) (ee : Ending) (w' : World) : Prop := (∃ A1 A2, ee = .returned (.agg #[.string f.name, .slice A1 f.params.length f.params.length, .slice A2 f.body.length f.body.length]) ∧
  StrS w' (Between w' w.heap.size w'.heap.size) f.params A1 ∧ StS w' (Between w' w.heap.size w'.heap.size) f.body A2) ∧ Below w.heap.size w w'
set_option maxHeartbeats 4000000 in
theorem toFn_any (f : Fu) (hbk : bulkF f ≤ 1048576) (v : Value) (w : World) (hV : FuV w (Lt w.heap.size) f v) :
    Calls Try.prog 18 #[v] w (ToFRet f w) := by
  obtain ⟨A1, p1, A2, p2, rfl, r1, r2⟩ := hV
  unfold ToFRet
  unfold bulkF at hbk
  obtain ⟨s, a, bd⟩ := f
  dsimp only at *
  have hla := length_le_bulkS a
  have CA := fun W (h : Below w.heap.size w W) => Lib.hid (toStringS_any a (by omega) A1 p1 W (r1.on (w' := W) (B' := W.heap.size) h h.size))
  have CB := fun W (h : Below w.heap.size w W) => Lib.hid (toStmtS_any bd (by omega) A2 p2 W (r2.on (w' := W) (B' := W.heap.size) h h.size))
  clear r1 r2 hbk hla
  have T0 := Lib.hid (Three.new w [.string s, .slice A1 a.length p1, .slice A2 bd.length p2] [.string ⟨#[]⟩, .slice none 0 0, .slice none 0 0] [.string s, .slice none 0 0, .slice none 0 0] 46 36 36)
  go_enter Try.func18, Try.ntmps18
  go_wp2_with fail
  refine Calls.mono (CA _ T0.out.below).out ?_
  rintro ee w1 ⟨⟨B1, rfl, q1⟩, hb1⟩
  have T1 := Lib.hid (T0.out.call hb1)
  have hz0 := T0.out.size
  have Q1 := Lib.hid (q1.wide (lo' := w.heap.size + 3) hz0 (Nat.le_refl _))
  clear T0 CA q1 hb1 hz0
  have c2 := T1.out.ba 2 _ rfl
  have d1 := T1.out.bl 1 _ rfl
  have f1 := T1.out.fl 1
  go_wp2_with fail
  refine Calls.mono (CB _ (T1.out.put 1 (.slice B1 a.length a.length)).below).out ?_
  rintro ee w2 ⟨⟨B2, rfl, q2⟩, hb2⟩
  have T2 := Lib.hid ((T1.out.put 1 (.slice B1 a.length a.length)).call hb2)
  have R1 := Lib.hid ((Q1.out.put (g := w.heap.size + 1 + 1) (by omega) 1 (.slice B1 a.length a.length)).later hb2 (Nat.le_refl _) hb2.size)
  have R2 := Lib.hid (q2.wide (lo' := w.heap.size + 3) (T1.out.put 1 (.slice B1 a.length a.length)).size (Nat.le_refl _))
  clear T1 CB q2 hb2 Q1 c2 d1 f1
  have d0 := T2.out.bl 0 _ rfl
  have d1 := T2.out.bl 1 _ rfl
  have d2 := T2.out.bl 2 _ rfl
  have f2 := T2.out.fl 2
  have e0 := T2.out.br 0 _ rfl
  have e1 := T2.out.br 1 _ rfl
  have e2 := T2.out.br 2 _ rfl
  have g0 := T2.out.fr 0
  have g1 := T2.out.fr 1
  have g2 := T2.out.fr 2
  go_wp2_with fail
  refine bodyPost_ret (v := .agg #[.string s, .slice B1 a.length a.length, .slice B2 bd.length bd.length]) (by simp [results, Try.results18, go_sem, e0, e1, e2]) rfl ⟨⟨B1, B2, rfl, ?_, ?_⟩, ?_⟩
  · exact ((((R1.out.put (g := w.heap.size + 1 + 1) (by omega) 2 _).put (g := w.heap.size + 1) (by omega) 0 _).put (g := w.heap.size + 1) (by omega) 1 _).put (g := w.heap.size + 1) (by omega) 2 _).wide (by omega) (Nat.le_refl _)
  · exact ((((R2.out.put (g := w.heap.size + 1 + 1) (by omega) 2 _).put (g := w.heap.size + 1) (by omega) 0 _).put (g := w.heap.size + 1) (by omega) 1 _).put (g := w.heap.size + 1) (by omega) 2 _).wide (by omega) (Nat.le_refl _)
  · exact ((((T2.out.put 2 _).res 0 _).res 1 _).res 2 _).below
/-- The first k functions stand in a row of block g; what they lead to lies behind it. -/
def fPart (ks : List Fu) (g : Nat) (w : World) (k : Nat) (xs : List Value) : Prop := xs.length = ks.length * 3 ∧ ∀ j, (h : j < ks.length) → j < k →
  xs[j * 3]? = some (.string ks[j].name) ∧
    (∃ A, xs[j * 3 + 1]? = some (.slice A ks[j].params.length ks[j].params.length) ∧ StrS w (Between w (g + 1) w.heap.size) ks[j].params A) ∧
    (∃ A, xs[j * 3 + 2]? = some (.slice A ks[j].body.length ks[j].body.length) ∧ StS w (Between w (g + 1) w.heap.size) ks[j].body A)
theorem fPart.later {ks : List Fu} {g k : Nat} {w w' : World} {xs : List Value} (h : fPart ks g w k xs) (hb : Below w.heap.size w w') : fPart ks g w' k xs := by
  refine ⟨h.1, fun j hj hk => ?_⟩
  obtain ⟨a, ⟨A1, c1, p1⟩, A2, c2, p2⟩ := h.2 j hj hk
  exact ⟨a, ⟨A1, c1, p1.later hb (Nat.le_refl _) hb.size⟩, A2, c2, p2.later hb (Nat.le_refl _) hb.size⟩
theorem fPart.set {ks : List Fu} {g k : Nat} {w : World} {xs : List Value} (h : fPart ks g w k xs) (o : Nat) (v : Value) : fPart ks g (w.setCell ⟨g, o, none⟩ v) k xs := by
  refine ⟨h.1, fun j hj hk => ?_⟩
  obtain ⟨a, ⟨A1, c1, p1⟩, A2, c2, p2⟩ := h.2 j hj hk
  exact ⟨a, ⟨A1, c1, p1.put (by omega) o v⟩, A2, c2, p2.put (by omega) o v⟩
theorem fPart.step {ks : List Fu} {g k : Nat} {w : World} {xs : List Value} (h : fPart ks g w k xs) (hk : k < ks.length) {s : ByteArray} {a : List ByteArray} {bd : List St} (he : ks[k] = ⟨s, a, bd⟩) {A1 A2 : Option Addr}
    (h1 : StrS w (Between w (g + 1) w.heap.size) a A1) (h2 : StS w (Between w (g + 1) w.heap.size) bd A2) :
    fPart ks g w (k + 1) (((xs.set (k * 3) (.string s)).set (k * 3 + 1) (.slice A1 a.length a.length)).set (k * 3 + 2) (.slice A2 bd.length bd.length)) := by
  have hl := h.1
  obtain ⟨e1, e2, e3⟩ : s = ks[k].name ∧ a = ks[k].params ∧ bd = ks[k].body := by rw [he]; exact ⟨rfl, rfl, rfl⟩
  clear he
  subst e1 e2 e3
  refine ⟨by simpa using hl, fun j hj hjk => ?_⟩
  by_cases e : j = k
  · subst e
    refine ⟨?_, ⟨A1, ?_, h1⟩, A2, ?_, h2⟩
    · rw [List.getElem?_set_ne (by omega), List.getElem?_set_ne (by omega), List.getElem?_set_self (by omega)]
    · rw [List.getElem?_set_ne (by omega), List.getElem?_set_self (by simp only [List.length_set]; omega)]
    · rw [List.getElem?_set_self (by simp only [List.length_set]; omega)]
  · obtain ⟨a, ⟨A1, c1, p1⟩, A2, c2, p2⟩ := h.2 j hj (by omega)
    refine ⟨?_, ⟨A1, ?_, p1⟩, A2, ?_, p2⟩
    all_goals
      rw [List.getElem?_set_ne (by omega), List.getElem?_set_ne (by omega), List.getElem?_set_ne (by omega)]
      assumption
theorem fPart.done {ks : List Fu} {g : Nat} {w : World} {xs : List Value} {base : Nat} {e : TypeId} {cap : Nat} (h : fPart ks g w ks.length xs) (ho : w.ownsRow base e 3 (.slice (some ⟨g, 0, none⟩) ks.length cap) ks.length xs) :
    FuS w (Between w g w.heap.size) ks (some ⟨g, 0, none⟩) := by
  have hg := ho.lt g rfl
  refine .inr ⟨g, 0, rfl, ⟨Nat.le_refl _, hg.2, row_flat ho⟩, fun i hi => ?_⟩
  obtain ⟨a, ⟨A1, c1, p1⟩, A2, c2, p2⟩ := h.2 i hi hi
  have hl := h.1
  have cell : ∀ j, i * 3 ≤ j → j < i * 3 + 3 → w.cell? ⟨g, 0 + j, none⟩ = xs[j]? := by
    intro j _ hj
    rw [Nat.zero_add]
    exact ho.cellAt j (by omega)
  exact ⟨(cell _ (by omega) (by omega)).trans a, ⟨A1, _, (cell _ (by omega) (by omega)).trans c1, p1.wide (Nat.le_succ _) (Nat.le_refl _)⟩, A2, _, (cell _ (by omega) (by omega)).trans c2, p2.wide (Nat.le_succ _) (Nat.le_refl _)⟩
theorem fnInfo : (Try.prog.info? 36).map (fun i => (i.zero, i.size, i.bytes)) = some (some (.agg #[.string ⟨#[]⟩, .slice none 0 0, .slice none 0 0]), 3, 64) := by kernel_rfl
def ToFLRet (ks : List Fu) (w : World) (ee : Ending) (w' : World) : Prop := (∃ A, ee = .returned (.slice A ks.length ks.length) ∧ FuS w' (Between w' w.heap.size w'.heap.size) ks A) ∧ Below w.heap.size w w'
set_option maxHeartbeats 4000000 in
theorem toFnS_any (ks : List Fu) (hbk : bulkFL ks ≤ 1048576) (A : Option Addr) (cap : Nat) (w : World) (hR : FuS w (Lt w.heap.size) ks A) :
    Calls Try.prog 12 #[.slice A ks.length cap] w (ToFLRet ks w) := by
  have hn : ks.length ≤ 1048576 := by have := length_le_bulkFL ks; omega
  have HK := Lib.hid fun i (h : i < ks.length) => toFn_any ks[i] (by have := bulkFL_mem (List.getElem_mem h); omega)
  clear hbk
  have HR := Lib.hid hR
  clear hR
  obtain ⟨i0, hi, hz0, hz1, hz2⟩ := info_parts fnInfo
  go_enter Try.func12, Try.ntmps12
  go_wp2_with (first
    | (with_reducible refine wpList_make_full _ rfl _ _ 27 rfl w.heap.size 36 i0 (.agg #[.string ⟨#[]⟩, .slice none 0 0, .slice none 0 0]) 3 Try.underlying27 hi hz0 hz1 _ _ _ _ ks.length rfl rfl rfl rfl ?c1 ?c2 ?c3 ?_)
    | fail)
  case c1 => rw [hz2]; omega
  case c2 => unfold maxLen; omega
  case c3 => exact Nat.le_refl _
  intro w1 hown hgrow
  have hb0 : Below w.heap.size w w1 := (Below.refl _ _).grown hgrow (Nat.le_refl _) (fun k e => by cases e)
  obtain ⟨xs0, hown0, hp0⟩ : ∃ xs0, w1.ownsRow w.heap.size 36 3 (.slice (some ⟨w.heap.size, 0, none⟩) ks.length ks.length) ks.length xs0 ∧ fPart ks w.heap.size w1 0 xs0 := ⟨_, hown, hown.1, fun j _ hj => absurd hj (by omega)⟩
  clear hown
  have HO0 := Lib.hid hown0
  have HP0 := Lib.hid hp0
  clear hown0 hgrow hp0
  go_wp2_with fail
  go_loopw [4] (fun i wr => ∃ (k : Nat) (xs : List Value), k ≤ ks.length ∧ i = .int .i64 k ∧ wr.ownsRow w.heap.size 36 3 (.slice (some ⟨w.heap.size, 0, none⟩) ks.length ks.length) ks.length xs ∧ fPart ks w.heap.size wr k xs ∧ Below w.heap.size w wr) (fun i _ => ks.length - (intOf i).toNat)
  case atStart => exact ⟨0, xs0, Nat.zero_le _, rfl, HO0.out, HP0.out, hb0⟩
  case round =>
    clear HO0 hb0 HP0
    obtain ⟨k, xs, hk, rfl, hown, hp, hb⟩ := hrel
    have hbs := hb.size
    by_cases hlt : k < ks.length
    · obtain ⟨b, o, rfl, hB, c0, ⟨A1, p1, c1, r1⟩, A2, p2, c2, r2⟩ := (HR.out.on hb hbs).at_ hlt
      have CK := HK.out k hlt _ wr ⟨A1, p1, A2, p2, rfl, r1, r2⟩
      have HX := Lib.hid hp.1
      have HP := Lib.hid hp
      clear hp r1 r2
      unfold ToFRet at CK
      generalize hkd : ks[k] = kid at CK c0 c1 c2
      have HKD := Lib.hid hkd
      clear hkd
      obtain ⟨s, a, bd⟩ := kid
      dsimp only at c0 c1 c2 CK
      replace CK := Lib.hid CK
      go_wp2_with fail
      (with_reducible refine Calls.mono CK.out ?_)
      rintro ee w2 ⟨⟨B1, B2, rfl, q1, q2⟩, hb1⟩
      have hown2 := hown.kept (w' := w2) (row := none) ⟨hb1.os, hb1.tape, hb1.output, hb1.size, fun i hi _ => hb1.block i hi⟩ (by simp [Value.ownBlock])
      have hb2 := hb.trans (hb1.mono hbs)
      have hgs := (hown.lt _ rfl).2
      have Q1 := Lib.hid (q1.wide (lo' := w.heap.size + 1) hgs (Nat.le_refl _))
      have Q2 := Lib.hid (q2.wide (lo' := w.heap.size + 1) hgs (Nat.le_refl _))
      have HP2 := Lib.hid (HP.out.later hb1)
      clear hown hb hb1 c0 c1 c2 q1 q2 HP
      have hxl : xs.length = ks.length * 3 := HX.out
      have d0 := hown2.cellAt (k * 3) (by omega)
      have d1 := hown2.cellAt (k * 3 + 1) (by omega)
      have d2 := hown2.cellAt (k * 3 + 2) (by omega)
      have f0 := hown2.frozenAt (k * 3)
      have f1 := hown2.frozenAt (k * 3 + 1)
      have f2 := hown2.frozenAt (k * 3 + 2)
      rw [List.getElem?_eq_getElem (by omega)] at d0 d1 d2
      generalize xs[k * 3] = y0 at *
      generalize xs[k * 3 + 1] = y1 at *
      generalize xs[k * 3 + 2] = y2 at *
      have HO := Lib.hid hown2
      clear hown2 hxl
      go_wp2_with fail
      go_roundw
      case rel =>
        have hs0 := HO.out.stored (k * 3) (.string s)
        have hs1 := hs0.1.stored (k * 3 + 1) (.slice B1 a.length a.length)
        have hs2 := hs1.1.stored (k * 3 + 2) (.slice B2 bd.length bd.length)
        have hst := HP2.out.step hlt HKD.out Q1.out Q2.out
        exact ⟨k + 1, _, by omega, by go_num, hs2.1, ((hst.set (k * 3) _).set (k * 3 + 1) _).set (k * 3 + 2) _, ((hb2.setCell (Nat.le_refl _) _).setCell (Nat.le_refl _) _).setCell (Nat.le_refl _) _⟩
      case measure => simp only [intOf]; omega
    · obtain rfl : k = ks.length := by omega
      have HO := Lib.hid (hp.done hown)
      clear hown hp
      go_wp2_with fail
      go_ret
      exact ⟨⟨_, rfl, HO.out⟩, hb⟩
def ToPRet (p : List Fu) (w : World) (ee : Ending) (w' : World) : Prop := (∃ A, ee = .returned (.agg #[.slice A p.length p.length]) ∧ FuS w' (Between w' w.heap.size w'.heap.size) p A) ∧ Below w.heap.size w w'
set_option maxHeartbeats 4000000 in
theorem toProgram_any (p : List Fu) (hbk : bulkFL p ≤ 1048576) (v : Value) (w : World) (hV : PrV w (Lt w.heap.size) p v) :
    Calls Try.prog 6 #[v] w (ToPRet p w) := by
  obtain ⟨A1, p1, rfl, r1⟩ := hV
  unfold ToPRet
  have CA := fun W (h : Below w.heap.size w W) => Lib.hid (toFnS_any p hbk A1 p1 W (r1.on (w' := W) (B' := W.heap.size) h h.size))
  clear r1 hbk
  have T0 := Lib.hid (Three.new w [.slice A1 p.length p1] [.slice none 0 0] [.slice none 0 0] 24 29 29)
  go_enter Try.func6, Try.ntmps6
  go_wp2_with fail
  refine Calls.mono (CA _ T0.out.below).out ?_
  rintro ee w1 ⟨⟨B1, rfl, q1⟩, hb1⟩
  have T1 := Lib.hid (T0.out.call hb1)
  have hz0 := T0.out.size
  have R1 := Lib.hid (q1.wide (lo' := w.heap.size + 3) hz0 (Nat.le_refl _))
  clear T0 CA q1 hb1 hz0
  have d0 := T1.out.bl 0 _ rfl
  have f0 := T1.out.fl 0
  have e0 := T1.out.br 0 _ rfl
  have g0 := T1.out.fr 0
  go_wp2_with fail
  refine bodyPost_ret (v := .agg #[.slice B1 p.length p.length]) (by simp [results, Try.results6, go_sem, e0]) rfl ⟨⟨B1, rfl, ?_⟩, ?_⟩
  · exact ((R1.out.put (g := w.heap.size + 1 + 1) (by omega) 0 _).put (g := w.heap.size + 1) (by omega) 0 _).wide (by omega) (Nat.le_refl _)
  · exact ((T1.out.put 0 _).res 0 _).below
end Go.Proofs.Ytljdbjfbcjigaaa
