/-
  Programs that are valid, their statements counted, nested: the model.
-/
import Derived.Test.YtljdbjfbcjigaaaGreatDoorMg20
import Derived.Test.YtljdbjfbcjigaaaGreatDoorMg21
namespace Go.Proofs.YtljdbjfbcjigaaaGreatDoor
open Go.RowKit
set_option maxRecDepth 100000

theorem StrS.put {w : World} {lo : Nat} {ks : List ByteArray} {A : Option Addr} (h : StrS w (Between w lo w.heap.size) ks A) {g : Nat} (hg : g < lo) (o : Nat) (v : Value) : StrS (w.setCell ⟨g, o, none⟩ v) (Between (w.setCell ⟨g, o, none⟩ v) lo (w.setCell ⟨g, o, none⟩ v).heap.size) ks A := by
  rw [show (w.setCell ⟨g, o, none⟩ v).heap.size = w.heap.size by simp]
  exact h.set' hg o v
theorem FuS.put {w : World} {lo : Nat} {ks : List Fu} {A : Option Addr} (h : FuS w (Between w lo w.heap.size) ks A) {g : Nat} (hg : g < lo) (o : Nat) (v : Value) : FuS (w.setCell ⟨g, o, none⟩ v) (Between (w.setCell ⟨g, o, none⟩ v) lo (w.setCell ⟨g, o, none⟩ v).heap.size) ks A := by
  rw [show (w.setCell ⟨g, o, none⟩ v).heap.size = w.heap.size by simp]
  exact h.set' hg o v
theorem strTypeInfo : (Tryz.prog.info? 9).map (fun i => (i.zero, i.size, i.bytes)) = some (some (.string ⟨#[]⟩), 1, 16) := by kernel_rfl
def sPart (ks : List ByteArray) (k : Nat) (xs : List Value) : Prop := xs.length = ks.length ∧ ∀ j, (h : j < ks.length) → j < k → xs[j]? = some (.string ks[j])
def ToSRet (ks : List ByteArray) (w : World) (ee : Ending) (w' : World) : Prop := (∃ A, ee = .returned (.slice A ks.length ks.length) ∧ StrS w' (Between w' w.heap.size w'.heap.size) ks A) ∧ Below w.heap.size w w'
set_option maxHeartbeats 2000000 in
theorem toStringS_any (ks : List ByteArray) (hn : ks.length ≤ 1048576) (A : Option Addr) (cap : Nat) (w : World) (hR : StrS w (Lt w.heap.size) ks A) :
    Calls Tryz.prog 137 #[.slice A ks.length cap] w (ToSRet ks w) := by
  have HR := Lib.hid hR
  clear hR
  obtain ⟨i0, hi, hz0, hz1, hz2⟩ := info_parts strTypeInfo
  go_enter Tryz.func137, Tryz.ntmps137
  go_wp2_with (first
    | (with_reducible refine wpList_make_full _ rfl _ _ 67 rfl w.heap.size 9 i0 (.string ⟨#[]⟩) 1 Tryz.underlying67 hi hz0 hz1 _ _ _ _ ks.length rfl rfl rfl rfl ?c1 ?c2 ?c3 ?_)
    | fail)
  case c1 => rw [hz2]; omega
  case c2 => unfold maxLen; omega
  case c3 => exact Nat.le_refl _
  intro w1 hown hgrow
  have hb0 : Below w.heap.size w w1 := (Below.refl _ _).grown hgrow (Nat.le_refl _) (fun k e => by cases e)
  obtain ⟨xs0, hown0, hp0⟩ : ∃ xs0, w1.ownsRow w.heap.size 9 1 (.slice (some ⟨w.heap.size, 0, none⟩) ks.length ks.length) ks.length xs0 ∧ sPart ks 0 xs0 := ⟨_, hown, by have := hown.1; simpa using this, fun j _ hj => absurd hj (by omega)⟩
  clear hown
  have HO0 := Lib.hid hown0
  have HP0 := Lib.hid hp0
  clear hown0 hgrow hp0
  go_wp2_with fail
  go_loopw [4] (fun i wr => ∃ (k : Nat) (xs : List Value), k ≤ ks.length ∧ i = .int .i64 k ∧ wr.ownsRow w.heap.size 9 1 (.slice (some ⟨w.heap.size, 0, none⟩) ks.length ks.length) ks.length xs ∧ sPart ks k xs ∧ Below w.heap.size w wr) (fun i _ => ks.length - (intOf i).toNat)
  case atStart => exact ⟨0, xs0, Nat.zero_le _, rfl, HO0.out, HP0.out, hb0⟩
  case round =>
    clear HO0 hb0 HP0
    obtain ⟨k, xs, hk, rfl, hown, hp, hb⟩ := hrel
    have hbs := hb.size
    by_cases hlt : k < ks.length
    · obtain ⟨b, o, rfl, hB, c0⟩ := (HR.out.on hb hbs).at_ hlt
      have HP := Lib.hid hp
      have hxl : xs.length = ks.length := hp.1
      clear hp
      generalize hkd : ks[k] = kid at c0
      have HKD := Lib.hid hkd
      clear hkd
      have d0 := hown.cellAt k (by omega)
      have f0 := hown.frozenAt k
      rw [List.getElem?_eq_getElem (by omega)] at d0
      generalize xs[k] = y0 at *
      have HO := Lib.hid hown
      have HXL := Lib.hid hxl
      clear hown hxl
      go_wp2_with fail
      go_roundw
      case rel =>
        have hs0 := HO.out.stored k (.string kid)
        refine ⟨k + 1, _, by omega, by go_num, hs0.1, ⟨by simpa using HXL.out, fun j hj hjk => ?_⟩, hb.setCell (Nat.le_refl _) _⟩
        rw [List.getElem?_set]
        by_cases e : k = j
        · subst e
          rw [if_pos rfl, if_pos (by have := HXL.out; omega), HKD.out]
        · rw [if_neg e]; exact HP.out.2 j hj (by omega)
      case measure => simp only [intOf]; omega
    · obtain rfl : k = ks.length := by omega
      have HO := Lib.hid (show StrS wr (Between wr w.heap.size wr.heap.size) ks (some ⟨w.heap.size, 0, none⟩) from .inr ⟨w.heap.size, 0, rfl, ⟨Nat.le_refl _, (hown.lt _ rfl).2, row_flat hown⟩, fun i hi => by
        rw [Nat.zero_add, hown.cellAt i (by omega)]; exact hp.2 i hi hi⟩)
      clear hown hp
      go_wp2_with fail
      go_ret
      exact ⟨⟨_, rfl, HO.out⟩, hb⟩
def ToFRet (f : Fu) (w : World) (ee : Ending) (w' : World) : Prop := (∃ A1 A2, ee = .returned (.agg #[.string f.name, .slice A1 f.params.length f.params.length, .slice A2 f.body.length f.body.length]) ∧
  StrS w' (Between w' w.heap.size w'.heap.size) f.params A1 ∧ StS w' (Between w' w.heap.size w'.heap.size) f.body A2) ∧ Below w.heap.size w w'
set_option maxHeartbeats 4000000 in
theorem toFn_any (f : Fu) (hbk : bulkF f ≤ 1048576) (v : Value) (w : World) (hV : FuV w (Lt w.heap.size) f v) :
    Calls Tryz.prog 85 #[v] w (ToFRet f w) := by
  obtain ⟨A1, p1, A2, p2, rfl, r1, r2⟩ := hV
  unfold ToFRet
  unfold bulkF at hbk
  obtain ⟨s, a, bd⟩ := f
  dsimp only at *
  have hla := length_le_bulkS a
  have CA := fun W (h : Below w.heap.size w W) => Lib.hid (toStringS_any a (by omega) A1 p1 W (r1.on (w' := W) (B' := W.heap.size) h h.size))
  have CB := fun W (h : Below w.heap.size w W) => Lib.hid (toStmtS_any bd (by omega) A2 p2 W (r2.on (w' := W) (B' := W.heap.size) h h.size))
  clear r1 r2 hbk hla
  have T0 := Lib.hid (Three.new w [.string s, .slice A1 a.length p1, .slice A2 bd.length p2] [.string ⟨#[]⟩, .slice none 0 0, .slice none 0 0] [.string s, .slice none 0 0, .slice none 0 0] 113 70 70)
  go_enter Tryz.func85, Tryz.ntmps85
  go_wp2_with fail
  refine Calls.mono (CA _ T0.out.below).out ?_
  rintro ee w1 ⟨⟨B1, rfl, q1⟩, hb1⟩
  have T1 := Lib.hid (T0.out.call hb1)
  have hz0 := T0.out.size
  have Q1 := Lib.hid (q1.wide (lo' := w.heap.size + 3) hz0 (Nat.le_refl _))
  clear T0 CA q1 hb1 hz0
  have c2 := T1.out.ba 2 _ rfl
  have d1 := T1.out.bl 1 _ rfl
  have f1 := T1.out.fl 1
  go_wp2_with fail
  refine Calls.mono (CB _ (T1.out.put 1 (.slice B1 a.length a.length)).below).out ?_
  rintro ee w2 ⟨⟨B2, rfl, q2⟩, hb2⟩
  have T2 := Lib.hid ((T1.out.put 1 (.slice B1 a.length a.length)).call hb2)
  have R1 := Lib.hid ((Q1.out.put (g := w.heap.size + 1 + 1) (by omega) 1 (.slice B1 a.length a.length)).later hb2 (Nat.le_refl _) hb2.size)
  have R2 := Lib.hid (q2.wide (lo' := w.heap.size + 3) (T1.out.put 1 (.slice B1 a.length a.length)).size (Nat.le_refl _))
  clear T1 CB q2 hb2 Q1 c2 d1 f1
  have d0 := T2.out.bl 0 _ rfl
  have d1 := T2.out.bl 1 _ rfl
  have d2 := T2.out.bl 2 _ rfl
  have f2 := T2.out.fl 2
  have e0 := T2.out.br 0 _ rfl
  have e1 := T2.out.br 1 _ rfl
  have e2 := T2.out.br 2 _ rfl
  have g0 := T2.out.fr 0
  have g1 := T2.out.fr 1
  have g2 := T2.out.fr 2
  go_wp2_with fail
  refine bodyPost_ret (v := .agg #[.string s, .slice B1 a.length a.length, .slice B2 bd.length bd.length]) (by simp [results, Tryz.results85, go_sem, e0, e1, e2]) rfl ⟨⟨B1, B2, rfl, ?_, ?_⟩, ?_⟩
  · exact ((((R1.out.put (g := w.heap.size + 1 + 1) (by omega) 2 _).put (g := w.heap.size + 1) (by omega) 0 _).put (g := w.heap.size + 1) (by omega) 1 _).put (g := w.heap.size + 1) (by omega) 2 _).wide (by omega) (Nat.le_refl _)
  · exact ((((R2.out.put (g := w.heap.size + 1 + 1) (by omega) 2 _).put (g := w.heap.size + 1) (by omega) 0 _).put (g := w.heap.size + 1) (by omega) 1 _).put (g := w.heap.size + 1) (by omega) 2 _).wide (by omega) (Nat.le_refl _)
  · exact ((((T2.out.put 2 _).res 0 _).res 1 _).res 2 _).below
/-- The first k functions stand in a row of block g; what they lead to lies behind it. -/
def fPart (ks : List Fu) (g : Nat) (w : World) (k : Nat) (xs : List Value) : Prop := xs.length = ks.length * 3 ∧ ∀ j, (h : j < ks.length) → j < k →
  xs[j * 3]? = some (.string ks[j].name) ∧
    (∃ A, xs[j * 3 + 1]? = some (.slice A ks[j].params.length ks[j].params.length) ∧ StrS w (Between w (g + 1) w.heap.size) ks[j].params A) ∧
    (∃ A, xs[j * 3 + 2]? = some (.slice A ks[j].body.length ks[j].body.length) ∧ StS w (Between w (g + 1) w.heap.size) ks[j].body A)
theorem fPart.later {ks : List Fu} {g k : Nat} {w w' : World} {xs : List Value} (h : fPart ks g w k xs) (hb : Below w.heap.size w w') : fPart ks g w' k xs := by
  refine ⟨h.1, fun j hj hk => ?_⟩
  obtain ⟨a, ⟨A1, c1, p1⟩, A2, c2, p2⟩ := h.2 j hj hk
  exact ⟨a, ⟨A1, c1, p1.later hb (Nat.le_refl _) hb.size⟩, A2, c2, p2.later hb (Nat.le_refl _) hb.size⟩
theorem fPart.set {ks : List Fu} {g k : Nat} {w : World} {xs : List Value} (h : fPart ks g w k xs) (o : Nat) (v : Value) : fPart ks g (w.setCell ⟨g, o, none⟩ v) k xs := by
  refine ⟨h.1, fun j hj hk => ?_⟩
  obtain ⟨a, ⟨A1, c1, p1⟩, A2, c2, p2⟩ := h.2 j hj hk
  exact ⟨a, ⟨A1, c1, p1.put (by omega) o v⟩, A2, c2, p2.put (by omega) o v⟩
theorem fPart.step {ks : List Fu} {g k : Nat} {w : World} {xs : List Value} (h : fPart ks g w k xs) (hk : k < ks.length) {s : ByteArray} {a : List ByteArray} {bd : List St} (he : ks[k] = ⟨s, a, bd⟩) {A1 A2 : Option Addr}
    (h1 : StrS w (Between w (g + 1) w.heap.size) a A1) (h2 : StS w (Between w (g + 1) w.heap.size) bd A2) :
    fPart ks g w (k + 1) (((xs.set (k * 3) (.string s)).set (k * 3 + 1) (.slice A1 a.length a.length)).set (k * 3 + 2) (.slice A2 bd.length bd.length)) := by
  have hl := h.1
  obtain ⟨e1, e2, e3⟩ : s = ks[k].name ∧ a = ks[k].params ∧ bd = ks[k].body := by rw [he]; exact ⟨rfl, rfl, rfl⟩
  clear he
  subst e1 e2 e3
  refine ⟨by simpa using hl, fun j hj hjk => ?_⟩
  by_cases e : j = k
  · subst e
    refine ⟨?_, ⟨A1, ?_, h1⟩, A2, ?_, h2⟩
    · rw [List.getElem?_set_ne (by omega), List.getElem?_set_ne (by omega), List.getElem?_set_self (by omega)]
    · rw [List.getElem?_set_ne (by omega), List.getElem?_set_self (by simp only [List.length_set]; omega)]
    · rw [List.getElem?_set_self (by simp only [List.length_set]; omega)]
  · obtain ⟨a, ⟨A1, c1, p1⟩, A2, c2, p2⟩ := h.2 j hj (by omega)
    refine ⟨?_, ⟨A1, ?_, p1⟩, A2, ?_, p2⟩
    all_goals
      rw [List.getElem?_set_ne (by omega), List.getElem?_set_ne (by omega), List.getElem?_set_ne (by omega)]
      assumption
theorem fPart.done {ks : List Fu} {g : Nat} {w : World} {xs : List Value} {base : Nat} {e : TypeId} {cap : Nat} (h : fPart ks g w ks.length xs) (ho : w.ownsRow base e 3 (.slice (some ⟨g, 0, none⟩) ks.length cap) ks.length xs) :
    FuS w (Between w g w.heap.size) ks (some ⟨g, 0, none⟩) := by
  have hg := ho.lt g rfl
  refine .inr ⟨g, 0, rfl, ⟨Nat.le_refl _, hg.2, row_flat ho⟩, fun i hi => ?_⟩
  obtain ⟨a, ⟨A1, c1, p1⟩, A2, c2, p2⟩ := h.2 i hi hi
  have hl := h.1
  have cell : ∀ j, i * 3 ≤ j → j < i * 3 + 3 → w.cell? ⟨g, 0 + j, none⟩ = xs[j]? := by
    intro j _ hj
    rw [Nat.zero_add]
    exact ho.cellAt j (by omega)
  exact ⟨(cell _ (by omega) (by omega)).trans a, ⟨A1, _, (cell _ (by omega) (by omega)).trans c1, p1.wide (Nat.le_succ _) (Nat.le_refl _)⟩, A2, _, (cell _ (by omega) (by omega)).trans c2, p2.wide (Nat.le_succ _) (Nat.le_refl _)⟩
theorem fnInfo : (Tryz.prog.info? 70).map (fun i => (i.zero, i.size, i.bytes)) = some (some (.agg #[.string ⟨#[]⟩, .slice none 0 0, .slice none 0 0]), 3, 64) := by kernel_rfl
def ToFLRet (ks : List Fu) (w : World) (ee : Ending) (w' : World) : Prop := (∃ A, ee = .returned (.slice A ks.length ks.length) ∧ FuS w' (Between w' w.heap.size w'.heap.size) ks A) ∧ Below w.heap.size w w'
set_option maxHeartbeats 4000000 in
theorem toFnS_any (ks : List Fu) (hbk : bulkFL ks ≤ 1048576) (A : Option Addr) (cap : Nat) (w : World) (hR : FuS w (Lt w.heap.size) ks A) :
    Calls Tryz.prog 45 #[.slice A ks.length cap] w (ToFLRet ks w) := by
  have hn : ks.length ≤ 1048576 := by have := length_le_bulkFL ks; omega
  have HK := Lib.hid fun i (h : i < ks.length) => toFn_any ks[i] (by have := bulkFL_mem (List.getElem_mem h); omega)
  clear hbk
  have HR := Lib.hid hR
  clear hR
  obtain ⟨i0, hi, hz0, hz1, hz2⟩ := info_parts fnInfo
  go_enter Tryz.func45, Tryz.ntmps45
  go_wp2_with (first
    | (with_reducible refine wpList_make_full _ rfl _ _ 41 rfl w.heap.size 70 i0 (.agg #[.string ⟨#[]⟩, .slice none 0 0, .slice none 0 0]) 3 Tryz.underlying41 hi hz0 hz1 _ _ _ _ ks.length rfl rfl rfl rfl ?c1 ?c2 ?c3 ?_)
    | fail)
  case c1 => rw [hz2]; omega
  case c2 => unfold maxLen; omega
  case c3 => exact Nat.le_refl _
  intro w1 hown hgrow
  have hb0 : Below w.heap.size w w1 := (Below.refl _ _).grown hgrow (Nat.le_refl _) (fun k e => by cases e)
  obtain ⟨xs0, hown0, hp0⟩ : ∃ xs0, w1.ownsRow w.heap.size 70 3 (.slice (some ⟨w.heap.size, 0, none⟩) ks.length ks.length) ks.length xs0 ∧ fPart ks w.heap.size w1 0 xs0 := ⟨_, hown, hown.1, fun j _ hj => absurd hj (by omega)⟩
  clear hown
  have HO0 := Lib.hid hown0
  have HP0 := Lib.hid hp0
  clear hown0 hgrow hp0
  go_wp2_with fail
  go_loopw [4] (fun i wr => ∃ (k : Nat) (xs : List Value), k ≤ ks.length ∧ i = .int .i64 k ∧ wr.ownsRow w.heap.size 70 3 (.slice (some ⟨w.heap.size, 0, none⟩) ks.length ks.length) ks.length xs ∧ fPart ks w.heap.size wr k xs ∧ Below w.heap.size w wr) (fun i _ => ks.length - (intOf i).toNat)
  case atStart => exact ⟨0, xs0, Nat.zero_le _, rfl, HO0.out, HP0.out, hb0⟩
  case round =>
    clear HO0 hb0 HP0
    obtain ⟨k, xs, hk, rfl, hown, hp, hb⟩ := hrel
    have hbs := hb.size
    by_cases hlt : k < ks.length
    · obtain ⟨b, o, rfl, hB, c0, ⟨A1, p1, c1, r1⟩, A2, p2, c2, r2⟩ := (HR.out.on hb hbs).at_ hlt
      have CK := HK.out k hlt _ wr ⟨A1, p1, A2, p2, rfl, r1, r2⟩
      have HX := Lib.hid hp.1
      have HP := Lib.hid hp
      clear hp r1 r2
      unfold ToFRet at CK
      generalize hkd : ks[k] = kid at CK c0 c1 c2
      have HKD := Lib.hid hkd
      clear hkd
      obtain ⟨s, a, bd⟩ := kid
      dsimp only at c0 c1 c2 CK
      replace CK := Lib.hid CK
      go_wp2_with fail
      (with_reducible refine Calls.mono CK.out ?_)
      rintro ee w2 ⟨⟨B1, B2, rfl, q1, q2⟩, hb1⟩
      have hown2 := hown.kept (w' := w2) (row := none) ⟨hb1.os, hb1.tape, hb1.output, hb1.size, fun i hi _ => hb1.block i hi⟩ (by simp [Value.ownBlock])
      have hb2 := hb.trans (hb1.mono hbs)
      have hgs := (hown.lt _ rfl).2
      have Q1 := Lib.hid (q1.wide (lo' := w.heap.size + 1) hgs (Nat.le_refl _))
      have Q2 := Lib.hid (q2.wide (lo' := w.heap.size + 1) hgs (Nat.le_refl _))
      have HP2 := Lib.hid (HP.out.later hb1)
      clear hown hb hb1 c0 c1 c2 q1 q2 HP
      have hxl : xs.length = ks.length * 3 := HX.out
      have d0 := hown2.cellAt (k * 3) (by omega)
      have d1 := hown2.cellAt (k * 3 + 1) (by omega)
      have d2 := hown2.cellAt (k * 3 + 2) (by omega)
      have f0 := hown2.frozenAt (k * 3)
      have f1 := hown2.frozenAt (k * 3 + 1)
      have f2 := hown2.frozenAt (k * 3 + 2)
      rw [List.getElem?_eq_getElem (by omega)] at d0 d1 d2
      generalize xs[k * 3] = y0 at *
      generalize xs[k * 3 + 1] = y1 at *
      generalize xs[k * 3 + 2] = y2 at *
      have HO := Lib.hid hown2
      clear hown2 hxl
      go_wp2_with fail
      go_roundw
      case rel =>
        have hs0 := HO.out.stored (k * 3) (.string s)
        have hs1 := hs0.1.stored (k * 3 + 1) (.slice B1 a.length a.length)
        have hs2 := hs1.1.stored (k * 3 + 2) (.slice B2 bd.length bd.length)
        have hst := HP2.out.step hlt HKD.out Q1.out Q2.out
        exact ⟨k + 1, _, by omega, by go_num, hs2.1, ((hst.set (k * 3) _).set (k * 3 + 1) _).set (k * 3 + 2) _, ((hb2.setCell (Nat.le_refl _) _).setCell (Nat.le_refl _) _).setCell (Nat.le_refl _) _⟩
      case measure => simp only [intOf]; omega
    · obtain rfl : k = ks.length := by omega
      have HO := Lib.hid (hp.done hown)
      clear hown hp
      go_wp2_with fail
      go_ret
      exact ⟨⟨_, rfl, HO.out⟩, hb⟩
def ToPRet (p : List Fu) (w : World) (ee : Ending) (w' : World) : Prop := (∃ A, ee = .returned (.agg #[.slice A p.length p.length]) ∧ FuS w' (Between w' w.heap.size w'.heap.size) p A) ∧ Below w.heap.size w w'
set_option maxHeartbeats 4000000 in
theorem toProgram_any (p : List Fu) (hbk : bulkFL p ≤ 1048576) (v : Value) (w : World) (hV : PrV w (Lt w.heap.size) p v) :
    Calls Tryz.prog 17 #[v] w (ToPRet p w) := by
  obtain ⟨A1, p1, rfl, r1⟩ := hV
  unfold ToPRet
  have CA := fun W (h : Below w.heap.size w W) => Lib.hid (toFnS_any p hbk A1 p1 W (r1.on (w' := W) (B' := W.heap.size) h h.size))
  clear r1 hbk
  have T0 := Lib.hid (Three.new w [.slice A1 p.length p1] [.slice none 0 0] [.slice none 0 0] 37 43 43)
  go_enter Tryz.func17, Tryz.ntmps17
  go_wp2_with fail
  refine Calls.mono (CA _ T0.out.below).out ?_
  rintro ee w1 ⟨⟨B1, rfl, q1⟩, hb1⟩
  have T1 := Lib.hid (T0.out.call hb1)
  have hz0 := T0.out.size
  have R1 := Lib.hid (q1.wide (lo' := w.heap.size + 3) hz0 (Nat.le_refl _))
  clear T0 CA q1 hb1 hz0
  have d0 := T1.out.bl 0 _ rfl
  have f0 := T1.out.fl 0
  have e0 := T1.out.br 0 _ rfl
  have g0 := T1.out.fr 0
  go_wp2_with fail
  refine bodyPost_ret (v := .agg #[.slice B1 p.length p.length]) (by simp [results, Tryz.results17, go_sem, e0]) rfl ⟨⟨B1, rfl, ?_⟩, ?_⟩
  · exact ((R1.out.put (g := w.heap.size + 1 + 1) (by omega) 0 _).put (g := w.heap.size + 1) (by omega) 0 _).wide (by omega) (Nat.le_refl _)
  · exact ((T1.out.put 0 _).res 0 _).below
end Go.Proofs.YtljdbjfbcjigaaaGreatDoor

namespace Go.Proofs.YtljdbjfbcjigaaaGreatDoor
open Go.RowKit
set_option maxRecDepth 100000

set_option maxHeartbeats 2000000 in
theorem l3Stmts_of (d : Nat) (ks : List St) (hbk : bulkTL ks ≤ 1048576) (A : Option Addr) (cap : Nat) (w : World) (hR : StS w (Lt w.heap.size) ks A)
    (H : ∀ (t : St) (v : Value) (w : World), StV w (Lt w.heap.size) t v → bulkT t ≤ 1048576 → Calls Tryz.prog 209 #[v, .int .i64 d] w (BoolB (formT d t) w)) :
    Calls Tryz.prog 166 #[.slice A ks.length cap, .int .i64 d] w (BoolB (ks.all (formT d)) w) := by
  have hn : ks.length ≤ 1048576 := by have := length_le_bulkTL ks; omega
  have HBK := Lib.hid hbk
  have HR := Lib.hid hR
  have HH := Lib.hid H
  clear hR hbk H
  go_enter Tryz.func166, Tryz.ntmps166
  go_wp2_with fail
  go_loopw [5] (fun i wr => ∃ k : Nat, k ≤ ks.length ∧ i = .int .i64 k ∧ allTo (formT d) ks k ∧ Below w.heap.size w wr) (fun i _ => ks.length - (intOf i).toNat)
  case atStart => exact ⟨0, Nat.zero_le _, rfl, allTo_zero _ _, Below.refl _ _⟩
  case round =>
    obtain ⟨k, hk, rfl, hall, hb⟩ := hrel
    have HKT := Lib.hid hall
    have hbs := hb.size
    clear hall
    by_cases hlk : k < ks.length
    · obtain ⟨b, o, rfl, hB, ⟨d0, d1⟩, ⟨A1, p1, d2, r1⟩, ⟨A2, p2, d3, r2⟩, A3, p3, d4, r3⟩ := (HR.out.on hb hbs).at_ hlk
      have CV := HH.out ks[k] _ wr ⟨A1, p1, A2, p2, A3, p3, rfl, r1, r2, r3⟩ (by have := bulkTL_mem (List.getElem_mem hlk); have := HBK.out; omega)
      clear r1 r2 r3
      generalize hkd : ks[k] = kid at *
      have HKD := Lib.hid hkd
      clear hkd
      cases hv : formT d kid
      · rw [hv] at CV
        have HN := Lib.hid (show ks.all (formT d) = false from all_bad hlk (by rw [HKD.out]; exact hv))
        clear hv HKD
        obtain ⟨op, s, a, bd, el⟩ := kid
        dsimp only [St.op, St.name, St.args, St.body, St.els] at d0 d1 d2 d3 d4 CV
        replace CV := Lib.hid CV
        go_wp2_with ((go_at_call 209; (with_reducible refine Calls.mono CV.out ?_); rintro ee w2 ⟨rfl, hb2⟩; have hb3 := hb.trans (hb2.mono hbs)))
        go_ret
        exact ⟨by rw [HN.out]; rfl, hb3⟩
      · rw [hv] at CV
        have HN := Lib.hid (allTo_succ HKT.out hlk (by rw [HKD.out]; exact hv))
        clear hv HKD
        obtain ⟨op, s, a, bd, el⟩ := kid
        dsimp only [St.op, St.name, St.args, St.body, St.els] at d0 d1 d2 d3 d4 CV
        replace CV := Lib.hid CV
        go_wp2_with ((go_at_call 209; (with_reducible refine Calls.mono CV.out ?_); rintro ee w2 ⟨rfl, hb2⟩; have hb3 := hb.trans (hb2.mono hbs)))
        go_roundw
        case rel => exact ⟨k + 1, by omega, by go_num, HN.out, hb3⟩
        case measure => simp only [intOf]; omega
    · obtain rfl : k = ks.length := by omega
      have HN := Lib.hid (all_of HKT.out)
      go_wp2_with fail
      go_ret
      exact ⟨by rw [HN.out]; rfl, hb⟩
theorem l3Stmt_any : ∀ (d : Nat) (_ : d ≤ 100) (t : St) (v : Value) (w : World), StV w (Lt w.heap.size) t v → bulkT t ≤ 1048576 → Calls Tryz.prog 209 #[v, .int .i64 d] w (BoolB (formT d t) w)
  | 0, _, t, v, w, hV, _ => l3Stmt_zero t v w hV
  | d + 1, hd, t, v, w, hV, hbk => by
    rw [show ((d + 1 : Nat) : Int) = (d : Int) + 1 by omega]
    exact l3Stmt_succ d (by omega) t v w hV hbk (fun ks A cap w hR hk => l3Stmts_of d ks hk A cap w hR (fun t v w h1 h2 => l3Stmt_any d (by omega) t v w h1 h2))
theorem l3Stmts_any (d : Nat) (hd : d ≤ 100) (ks : List St) (hbk : bulkTL ks ≤ 1048576) (A : Option Addr) (cap : Nat) (w : World) (hR : StS w (Lt w.heap.size) ks A) :
    Calls Tryz.prog 166 #[.slice A ks.length cap, .int .i64 d] w (BoolB (ks.all (formT d)) w) := l3Stmts_of d ks hbk A cap w hR (fun t v w h1 h2 => l3Stmt_any d hd t v w h1 h2)
set_option maxHeartbeats 2000000 in
/-- A count of statements with those in them. -/
theorem l3Count_of (ks : List St) (hbk : bulkTL ks ≤ 1048576) (A : Option Addr) (cap : Nat) (w : World) (hR : StS w (Lt w.heap.size) ks A)
    (H : ∀ (ls : List St), sizeTL ls < sizeTL ks → ∀ (A : Option Addr) (cap : Nat) (w : World), StS w (Lt w.heap.size) ls A → bulkTL ls ≤ 1048576 → Calls Tryz.prog 167 #[.slice A ls.length cap] w (NumBelow (sizeTL ls) w)) :
    Calls Tryz.prog 167 #[.slice A ks.length cap] w (NumBelow (sizeTL ks) w) := by
  have hn : ks.length ≤ 1048576 := by have := length_le_bulkTL ks; omega
  have hsz : sizeTL ks ≤ 1048576 := by have := sizeTL_bulk ks; omega
  have HBK := Lib.hid hbk
  have HR := Lib.hid hR
  have HH := Lib.hid H
  clear hR hbk H
  go_enter Tryz.func167, Tryz.ntmps167
  go_wp2_with fail
  go_loopw [3, 4] (fun n i wr => ∃ k m : Nat, k ≤ ks.length ∧ i = .int .i64 k ∧ n = .int .i64 m ∧ m + k = ks.length + sizeTL (ks.take k) ∧ Below w.heap.size w wr) (fun _ i _ => ks.length - (intOf i).toNat)
  case atStart => exact ⟨0, ks.length, Nat.zero_le _, rfl, rfl, by rw [List.take_zero]; show _ = _ + 0; omega, Below.refl _ _⟩
  case round =>
    obtain ⟨k, m, hk, rfl, rfl, hm, hb⟩ := hrel
    have HM := Lib.hid hm
    have hbs := hb.size
    have htk := sizeTL_take_le ks k
    clear hm
    by_cases hlk : k < ks.length
    · have HT := Lib.hid (sizeTL_take hlk)
      have hg := sizeTL_get hlk
      have hkk := sizeT_kids ks[k]
      have htk1 := sizeTL_take_le ks (k + 1)
      have hbm := bulkTL_mem (List.getElem_mem hlk)
      have hbk2 := bulkT_kids ks[k]
      have hmm : m ≤ 2097152 := by have := HM.out; omega
      obtain ⟨b, o, rfl, hB, _, _, ⟨A2, p2, d3, r2⟩, A3, p3, d4, r3⟩ := (HR.out.on hb hbs).at_ hlk
      have hBr : b < wr.heap.size := hB
      have hbr := (Below.refl wr.heap.size wr).drew
      have CB := fun W (h : Below wr.heap.size wr W) => Lib.hid (HH.out ks[k].body (by omega) A2 p2 W (r2.on (w' := W) (B' := W.heap.size) h h.size) (by have := HBK.out; omega))
      have CE := fun W (h : Below wr.heap.size wr W) => Lib.hid (HH.out ks[k].els (by omega) A3 p3 W (r3.on (w' := W) (B' := W.heap.size) h h.size) (by have := HBK.out; omega))
      have hsum : 1 + sizeTL ks[k].body + sizeTL ks[k].els ≤ 1048576 := by omega
      rw [hkk] at HT
      clear r2 r3 hg hkk htk1 hbm hbk2 htk
      generalize ks[k].body.length = n2 at *
      generalize ks[k].els.length = n3 at *
      generalize sizeTL ks[k].body = s2 at *
      generalize sizeTL ks[k].els = s3 at *
      have CB1 := Lib.hid (CB _ hbr).out
      clear CB
      have hmr : (m : Int) + s2 ≤ 9223372036854775807 := by omega
      go_wp2_with fail
      go_region_held3 (fun u => u.cell? ⟨b, o + k * 5 + 3, none⟩ = some (.slice A2 n2 p2) ∧ u.cell? ⟨b, o + k * 5 + 4, none⟩ = some (.slice A3 n3 p3)) (go_keep)
        (first
          | (go_at_call 167; (with_reducible refine Calls.mono CB1.out ?_); rintro ee w2 ⟨rfl, hb2⟩; have hb3 := hbr.trans (hb2.mono hbr.size); have g3 := (hb2.cell (p := ⟨b, o + k * 5 + 3, none⟩) hBr).trans d3; have g4 := (hb2.cell (p := ⟨b, o + k * 5 + 4, none⟩) hBr).trans d4; have CE1 := Lib.hid (CE _ hb3).out)
          | (go_at_call 167; (with_reducible refine Calls.mono CE1.out ?_); rintro ee w3 ⟨rfl, hb4⟩; have hb5 := hb3.trans (hb4.mono hb3.size); have q3 := (hb4.cell (p := ⟨b, o + k * 5 + 3, none⟩) (Nat.lt_of_lt_of_le hBr hb3.size)).trans g3; have q4 := (hb4.cell (p := ⟨b, o + k * 5 + 4, none⟩) (Nat.lt_of_lt_of_le hBr hb3.size)).trans g4))
      all_goals
        have hb6 := hb.trans (hb5.mono hbs)
        go_wp2_with fail
        go_roundw
        case rel => exact ⟨k + 1, m + s2 + s3, by omega, by go_num, by rw [IntWalk.i64_in ((m : Int) + s2) (by omega), IntWalk.i64_in ((m : Int) + s2 + s3) (by omega)]; go_num, by rw [HT.out]; have := HM.out; omega, hb6⟩
        case measure => simp only [intOf]; omega
    · obtain rfl : k = ks.length := by omega
      go_wp2_with fail
      go_ret
      exact ⟨ret_int' (by have := HM.out; rw [List.take_length] at this; omega), hb⟩
theorem l3Count_any : ∀ (N : Nat) (ks : List St) (_ : sizeTL ks ≤ N) (A : Option Addr) (cap : Nat) (w : World), StS w (Lt w.heap.size) ks A → bulkTL ks ≤ 1048576 → Calls Tryz.prog 167 #[.slice A ks.length cap] w (NumBelow (sizeTL ks) w)
  | 0, ks, h, A, cap, w, hR, hb => l3Count_of ks hb A cap w hR (fun ls hl => by omega)
  | N + 1, ks, h, A, cap, w, hR, hb => l3Count_of ks hb A cap w hR (fun ls hl A cap w h1 h2 => l3Count_any N ls (by omega) A cap w h1 h2)
end Go.Proofs.YtljdbjfbcjigaaaGreatDoor

namespace Go.Proofs.YtljdbjfbcjigaaaGreatDoor
open Go.RowKit
set_option maxRecDepth 100000

theorem fnB_ask (f : Fu) : fnB f = (f.params.all nameB && (nameB f.name && (decide (f.params.length ≤ 3) && f.body.all (formT 4)))) := by
  unfold fnB headF
  ac_rfl
theorem box3 (w : World) (v0 v1 v2 : Value) (t : TypeId) :
    (w.alloc (.cells #[v0, v1, v2] t)).cell? ⟨w.heap.size, 0, none⟩ = some v0 ∧ (w.alloc (.cells #[v0, v1, v2] t)).cell? ⟨w.heap.size, 1, none⟩ = some v1 ∧ (w.alloc (.cells #[v0, v1, v2] t)).cell? ⟨w.heap.size, 2, none⟩ = some v2 ∧ w.heap.size < (w.alloc (.cells #[v0, v1, v2] t)).heap.size ∧ Below w.heap.size w (w.alloc (.cells #[v0, v1, v2] t)) :=
  ⟨alloc_cell w _ _ _ 0, alloc_cell w _ _ _ 1, alloc_cell w _ _ _ 2, by rw [World.size_alloc]; omega, (Below.refl _ _).alloc (Nat.le_refl _) _⟩
theorem box1 (w : World) (v0 : Value) (t : TypeId) :
    (w.alloc (.cells #[v0] t)).cell? ⟨w.heap.size, 0, none⟩ = some v0 ∧ w.heap.size < (w.alloc (.cells #[v0] t)).heap.size ∧ Below w.heap.size w (w.alloc (.cells #[v0] t)) :=
  ⟨alloc_cell w _ _ _ 0, by rw [World.size_alloc]; omega, (Below.refl _ _).alloc (Nat.le_refl _) _⟩
set_option maxHeartbeats 2000000 in
theorem l3Fn_any (f : Fu) (hbk : bulkF f ≤ 1048576) (v : Value) (w : World) (hV : FuV w (Lt w.heap.size) f v) :
    Calls Tryz.prog 117 #[v] w (BoolB (fnB f) w) := by
  obtain ⟨A1, p1, A2, p2, rfl, r1, r2⟩ := hV
  have HF := Lib.hid (fnB_ask f)
  generalize fnB f = res at *
  unfold bulkF at hbk
  obtain ⟨s, a, bd⟩ := f
  dsimp only at *
  have hla := length_le_bulkS a
  obtain ⟨c0, c1, c2, hlt, hb⟩ := box3 w (.string s) (.slice A1 a.length p1) (.slice A2 bd.length p2) 70
  have R1 := fun W h => Lib.hid (r1.on (w' := W) (B' := W.heap.size) h h.size)
  have CB := fun W h => Lib.hid (l3Stmts_any 4 (by omega) bd (by omega) A2 p2 W (r2.on (w' := W) (B' := W.heap.size) h h.size))
  have CN := fun W => Lib.hid (specIsName_any s W (by unfold maxLen; omega))
  have HBK := Lib.hid hbk
  have hn : a.length ≤ 1048576 := by omega
  clear r1 r2 hbk hla
  go_enter Tryz.func117, Tryz.ntmps117
  go_wp2_with fail
  generalize w.alloc (.cells #[.string s, .slice A1 a.length p1, .slice A2 bd.length p2] 70) = wa at *
  go_loopw [3] (fun i wr => ∃ k : Nat, k ≤ a.length ∧ i = .int .i64 k ∧ allTo nameB a k ∧ Below wa.heap.size wa wr) (fun i _ => a.length - (intOf i).toNat)
  case atStart => exact ⟨0, Nat.zero_le _, rfl, allTo_zero _ _, Below.refl _ _⟩
  case round =>
    obtain ⟨k, hk, rfl, hall, hbr⟩ := hrel
    have HKT := Lib.hid hall
    have hbw := hb.trans (hbr.mono (Nat.le_of_lt hlt))
    have hbs := hbw.size
    have g1 := (hbr.cell (p := ⟨w.heap.size, 1, none⟩) hlt).trans c1
    clear hall
    by_cases hlk : k < a.length
    · obtain ⟨b, o, rfl, hB, d0⟩ := (R1 _ hbw).out.at_ hlk
      have hsz : a[k].size ≤ maxLen := by have := bulkS_mem (List.getElem_mem hlk); have := HBK.out; unfold maxLen; omega
      clear CN CB R1
      have CN := specIsName_any a[k] wr hsz
      generalize hkd : a[k] = kid at *
      have HKD := Lib.hid hkd
      clear hkd hsz
      cases hv : nameB kid
      · rw [hv] at CN
        have HN := Lib.hid (show res = false by rw [HF.out, all_bad (p := nameB) hlk (by rw [HKD.out]; exact hv)]; rfl)
        clear hv
        replace CN := Lib.hid CN
        go_wp2_with ((go_at_call 108; (with_reducible refine Calls.mono CN.out ?_); rintro ee w2 ⟨rfl, hb2⟩; have hb3 := hbw.trans (hb2.mono hbs)))
        go_ret
        exact ⟨by rw [HN.out]; rfl, hb3⟩
      · rw [hv] at CN
        have HN := Lib.hid (allTo_succ HKT.out hlk (by rw [HKD.out]; exact hv))
        clear hv
        replace CN := Lib.hid CN
        go_wp2_with ((go_at_call 108; (with_reducible refine Calls.mono CN.out ?_); rintro ee w2 ⟨rfl, hb2⟩; have hb3 := hbr.trans (hb2.mono hbr.size)))
        go_roundw
        case rel => exact ⟨k + 1, by omega, by go_num, HN.out, hb3⟩
        case measure => simp only [intOf]; omega
    · obtain rfl : k = a.length := by omega
      have H1 := Lib.hid (all_of HKT.out)
      have g0 := (hbr.cell (p := ⟨w.heap.size, 0, none⟩) hlt).trans c0
      have g2 := (hbr.cell (p := ⟨w.heap.size, 2, none⟩) hlt).trans c2
      have hltr := Nat.lt_of_lt_of_le hlt hbr.size
      clear c0 c1 c2 hbr HKT hb hlt hk hlk R1
      have CN1 := (CN wr).out
      clear CN
      cases h2 : nameB s
      · rw [h2] at CN1
        have HN := Lib.hid (show res = false by rw [HF.out, H1.out, h2]; rfl)
        clear h2 CB
        replace CN1 := Lib.hid CN1
        go_wp2_with ((go_at_call 108; (with_reducible refine Calls.mono CN1.out ?_); rintro ee w2 ⟨rfl, hb2⟩; have hb3 := hbw.trans (hb2.mono hbs)))
        go_ret
        exact ⟨by rw [HN.out]; rfl, hb3⟩
      · rw [h2] at CN1
        have H2 := Lib.hid h2
        clear h2
        replace CN1 := Lib.hid CN1
        by_cases h3 : (a.length : Int) ≤ 3
        · have HN := Lib.hid (show res = bd.all (formT 4) by rw [HF.out, H1.out, H2.out, decide_eq_true (p := a.length ≤ 3) (by omega)]; rfl)
          go_wp2_with fail
          (with_reducible refine Calls.mono CN1.out ?_)
          rintro ee w2 ⟨rfl, hb2⟩
          have hb3 := hbw.trans (hb2.mono hbs)
          have q1 := (hb2.cell (p := ⟨w.heap.size, 1, none⟩) hltr).trans g1
          have q2 := (hb2.cell (p := ⟨w.heap.size, 2, none⟩) hltr).trans g2
          have CB1 := Lib.hid (CB _ hb3).out
          clear CB
          generalize bd.all (formT 4) = ea at *
          cases ea
          all_goals
            go_wp2_with fail
            (with_reducible refine Calls.mono CB1.out ?_)
            rintro ee w4 ⟨rfl, hb4⟩
            have hb5 := hb3.trans (hb4.mono hb3.size)
            go_wp2_with fail
            go_ret
            exact ⟨by rw [HN.out]; rfl, hb5⟩
        · have HN := Lib.hid (show res = false by rw [HF.out, H1.out, H2.out, decide_eq_false (p := a.length ≤ 3) (by omega)]; rfl)
          clear CB
          go_wp2_with fail
          (with_reducible refine Calls.mono CN1.out ?_)
          rintro ee w2 ⟨rfl, hb2⟩
          have hb3 := hbw.trans (hb2.mono hbs)
          have q1 := (hb2.cell (p := ⟨w.heap.size, 1, none⟩) hltr).trans g1
          go_wp2_with fail
          go_ret
          exact ⟨by rw [HN.out]; rfl, hb3⟩
set_option maxHeartbeats 2000000 in
theorem l3All_any (p : List Fu) (hbk : bulkFL p ≤ 1048576) (v : Value) (w : World) (hV : PrV w (Lt w.heap.size) p v) :
    Calls Tryz.prog 118 #[v] w (NumBelow (countP p) w) := by
  obtain ⟨A, c, rfl, hR⟩ := hV
  have hn : p.length ≤ 1048576 := by have := length_le_bulkFL p; omega
  have hcp : countP p ≤ 1048576 := by have := countP_bulk p; omega
  have HBK := Lib.hid hbk
  have HR := Lib.hid hR
  clear hR hbk
  obtain ⟨c0, hlt, hb⟩ := box1 w (.slice A p.length c) 43
  go_enter Tryz.func118, Tryz.ntmps118
  go_wp2_with fail
  generalize w.alloc (.cells #[.slice A p.length c] 43) = wa at *
  go_loopw [3, 4] (fun m i wr => ∃ k : Nat, k ≤ p.length ∧ i = .int .i64 k ∧ m = .int .i64 ((countP (p.take k) : Nat) : Int) ∧ Below wa.heap.size wa wr) (fun _ i _ => p.length - (intOf i).toNat)
  case atStart => exact ⟨0, Nat.zero_le _, rfl, rfl, Below.refl _ _⟩
  case round =>
    obtain ⟨k, hk, rfl, rfl, hbr⟩ := hrel
    have hbw := hb.trans (hbr.mono (Nat.le_of_lt hlt))
    have hbs := hbw.size
    have g0 := (hbr.cell (p := ⟨w.heap.size, 0, none⟩) hlt).trans c0
    have htk := countP_take_le p k
    by_cases hlk : k < p.length
    · have HT := Lib.hid (countP_take hlk)
      have htk1 := countP_take_le p (k + 1)
      have hsum : countP (p.take k) + sizeTL p[k].body ≤ 1048576 := by rw [← HT.out]; omega
      have hbm := bulkFL_mem (List.getElem_mem hlk)
      have hbf : bulkF p[k] = p[k].name.size + bulkS p[k].params + bulkTL p[k].body := rfl
      obtain ⟨b, o, rfl, hB, _, _, A2, p2, d2, r2⟩ := (HR.out.on hbw hbs).at_ hlk
      have CK := Lib.hid (l3Count_any _ p[k].body (Nat.le_refl _) A2 p2 wr r2 (by have := HBK.out; omega))
      clear r2 htk1 hbm hbf htk
      generalize p[k].body.length = n2 at *
      generalize sizeTL p[k].body = s2 at *
      generalize countP (p.take k) = m at *
      go_wp2_with ((go_at_call 167; (with_reducible refine Calls.mono CK.out ?_); rintro ee w2 ⟨rfl, hb2⟩; have hb3 := hbr.trans (hb2.mono hbr.size)))
      go_roundw
      case rel => exact ⟨k + 1, by omega, by go_num, by rw [HT.out]; go_num, hb3⟩
      case measure => simp only [intOf]; omega
    · obtain rfl : k = p.length := by omega
      go_wp2
      go_ret
      exact ⟨by rw [List.take_length]; rfl, hbw⟩
end Go.Proofs.YtljdbjfbcjigaaaGreatDoor
