/-
  What the laws' own helpers do with units: a copy in new memory.
-/
import Derived.Test.YtomhomnibikceaaDoorNB
namespace Go.Proofs.YtomhomnibikceaaDoor
open Go.RowKit
set_option maxRecDepth 100000

theorem uIntInfo : (Tryd.prog.info? 3).map (fun i => (i.zero, i.size, i.bytes)) = some (some (.int .i64 0), 1, 8) := by kernel_rfl
def nPart (ks : List Int) (k : Nat) (xs : List Value) : Prop := xs.length = ks.length ∧ ∀ j, (h : j < ks.length) → j < k → xs[j]? = some (.int .i64 ks[j])
def ToNRet (ks : List Int) (w : World) (ee : Ending) (w' : World) : Prop := (∃ A, ee = .returned (.slice A ks.length ks.length) ∧ NumS w' (Between w' w.heap.size w'.heap.size) ks A) ∧ Below w.heap.size w w'
set_option maxHeartbeats 2000000 in
theorem toIntS_new (ks : List Int) (hn : ks.length ≤ 1048576) (A : Option Addr) (cap : Nat) (w : World) (hR : NumS w (Lt w.heap.size) ks A) :
    Calls Tryd.prog 116 #[.slice A ks.length cap] w (ToNRet ks w) := by
  have HR := Lib.hid hR
  clear hR
  obtain ⟨i0, hi, hz0, hz1, hz2⟩ := info_parts uIntInfo
  go_enter Tryd.func116, Tryd.ntmps116
  go_wp2_with (first
    | (with_reducible refine wpList_make_full _ rfl _ _ 48 rfl w.heap.size 3 i0 (.int .i64 0) 1 Tryd.underlying48 hi hz0 hz1 _ _ _ _ ks.length rfl rfl rfl rfl ?c1 ?c2 ?c3 ?_)
    | fail)
  case c1 => rw [hz2]; omega
  case c2 => unfold maxLen; omega
  case c3 => exact Nat.le_refl _
  intro w1 hown hgrow
  have hb0 : Below w.heap.size w w1 := (Below.refl _ _).grown hgrow (Nat.le_refl _) (fun k e => by cases e)
  obtain ⟨xs0, hown0, hp0⟩ : ∃ xs0, w1.ownsRow w.heap.size 3 1 (.slice (some ⟨w.heap.size, 0, none⟩) ks.length ks.length) ks.length xs0 ∧ nPart ks 0 xs0 := ⟨_, hown, by have := hown.1; simpa using this, fun j _ hj => absurd hj (by omega)⟩
  clear hown
  have HO0 := Lib.hid hown0
  have HP0 := Lib.hid hp0
  clear hown0 hgrow hp0
  go_wp2_with fail
  go_loopw [4] (fun i wr => ∃ (k : Nat) (xs : List Value), k ≤ ks.length ∧ i = .int .i64 k ∧ wr.ownsRow w.heap.size 3 1 (.slice (some ⟨w.heap.size, 0, none⟩) ks.length ks.length) ks.length xs ∧ nPart ks k xs ∧ Below w.heap.size w wr) (fun i _ => ks.length - (intOf i).toNat)
  case atStart => exact ⟨0, xs0, Nat.zero_le _, rfl, HO0.out, HP0.out, hb0⟩
  case round =>
    clear HO0 hb0 HP0
    obtain ⟨k, xs, hk, rfl, hown, hp, hb⟩ := hrel
    have hbs := hb.size
    by_cases hlt : k < ks.length
    · obtain ⟨b, o, rfl, hB, c0⟩ := (HR.out.on hb hbs).at_ hlt
      have HP := Lib.hid hp
      have hxl : xs.length = ks.length := hp.1
      clear hp
      generalize hkd : ks[k] = kid at c0
      have HKD := Lib.hid hkd
      clear hkd
      have d0 := hown.cellAt k (by omega)
      have f0 := hown.frozenAt k
      rw [List.getElem?_eq_getElem (by omega)] at d0
      generalize xs[k] = y0 at *
      have HO := Lib.hid hown
      have HXL := Lib.hid hxl
      clear hown hxl
      go_wp2_with fail
      go_roundw
      case rel =>
        have hs0 := HO.out.stored k (.int .i64 kid)
        refine ⟨k + 1, _, by omega, by go_num, hs0.1, ⟨by simpa using HXL.out, fun j hj hjk => ?_⟩, hb.setCell (Nat.le_refl _) _⟩
        rw [List.getElem?_set]
        by_cases e : k = j
        · subst e
          rw [if_pos rfl, if_pos (by have := HXL.out; omega), HKD.out]
        · rw [if_neg e]; exact HP.out.2 j hj (by omega)
      case measure => simp only [intOf]; omega
    · obtain rfl : k = ks.length := by omega
      have HO := Lib.hid (show NumS wr (Between wr w.heap.size wr.heap.size) ks (some ⟨w.heap.size, 0, none⟩) from NumS.mk ⟨Nat.le_refl _, (hown.lt _ rfl).2, urow_flat hown⟩ fun i hi => by
        rw [Nat.zero_add, hown.cellAt i (by omega)]; exact hp.2 i hi hi)
      clear hown hp
      go_wp2_with fail
      go_ret
      exact ⟨⟨_, rfl, HO.out⟩, hb⟩
def ToPhRet (x : Ph) (w : World) (ee : Ending) (w' : World) : Prop := (∃ B1, ee = .returned (.agg #[.int .i64 x.to, .slice B1 x.args.length x.args.length]) ∧ NumS w' (Between w' w.heap.size w'.heap.size) x.args B1) ∧ Below w.heap.size w w'
set_option maxHeartbeats 4000000 in
theorem toPhi_any (x : Ph) (hbk : bulkPh x ≤ 1048576) (v : Value) (w : World) (hV : PhV w (Lt w.heap.size) x v) :
    Calls Tryd.prog 128 #[v] w (ToPhRet x w) := by
  obtain ⟨A1, c1, rfl, r1⟩ := hV
  unfold ToPhRet
  unfold bulkPh at hbk
  obtain ⟨f0, f1⟩ := x
  dsimp only at *
  have C1 := fun W (h : Below w.heap.size w W) => Lib.hid (toIntS_new f1 (by omega) A1 c1 W (r1.on (w' := W) (B' := W.heap.size) h h.size))
  clear r1 hbk
  have T0 := Lib.hid (TriB.new w [.int .i64 f0, .slice A1 f1.length c1] [.int .i64 0, .slice none 0 0] [.int .i64 f0, .slice none 0 0] 166 58 58)
  go_enter Tryd.func128, Tryd.ntmps128
  go_wp2_with fail
  refine Calls.mono (C1 _ (T0.out).below).out ?_
  rintro ee w1 ⟨⟨B1, rfl, q1⟩, hb1⟩
  have T1 := Lib.hid ((T0.out).call hb1)
  have hz1 := (T0.out).size
  have R1_1 := Lib.hid (q1.wide (lo' := w.heap.size + 3) hz1 (Nat.le_refl _))
  clear C1 q1 hb1 hz1
  clear T0
  have d0 := T1.out.bl 0 _ rfl
  have e0 := T1.out.fl 0
  have g0 := T1.out.br 0 _ rfl
  have p0 := T1.out.fr 0
  have d1 := T1.out.bl 1 _ rfl
  have e1 := T1.out.fl 1
  have g1 := T1.out.br 1 _ rfl
  have p1 := T1.out.fr 1
  go_wp2_with fail
  refine bodyPost_ret (v := .agg #[.int .i64 f0, .slice B1 f1.length f1.length]) (by simp [results, Tryd.results128, go_sem, g0, g1]) rfl ⟨⟨B1, rfl, ?_⟩, ?_⟩
  · exact (((R1_1.out.put (g := w.heap.size + 1 + 1) (by omega) 1 _).put (g := w.heap.size + 1) (by omega) 0 _).put (g := w.heap.size + 1) (by omega) 1 _).wide (by omega) (Nat.le_refl _)
  · exact (((T1.out.put 1 _).res 0 _).res 1 _).below
def partPh (ks : List Ph) (g : Nat) (w : World) (k : Nat) (xs : List Value) : Prop := xs.length = ks.length * 2 ∧ ∀ j, (h : j < ks.length) → j < k →
  xs[j * 2]? = some (.int .i64 ks[j].to) ∧ (∃ A, xs[j * 2 + 1]? = some (.slice A ks[j].args.length ks[j].args.length) ∧ NumS w (Between w (g + 1) w.heap.size) ks[j].args A)
theorem partPh.later {ks : List Ph} {g k : Nat} {w w' : World} {xs : List Value} (h : partPh ks g w k xs) (hb : Below w.heap.size w w') : partPh ks g w' k xs := by
  refine ⟨h.1, fun j hj hk => ?_⟩
  obtain ⟨a0, ⟨A1, a1, p1⟩⟩ := h.2 j hj hk
  exact ⟨a0, ⟨A1, a1, p1.later hb (Nat.le_refl _) hb.size⟩⟩
theorem partPh.set {ks : List Ph} {g k : Nat} {w : World} {xs : List Value} (h : partPh ks g w k xs) (o : Nat) (v : Value) : partPh ks g (w.setCell ⟨g, o, none⟩ v) k xs := by
  refine ⟨h.1, fun j hj hk => ?_⟩
  obtain ⟨a0, ⟨A1, a1, p1⟩⟩ := h.2 j hj hk
  exact ⟨a0, ⟨A1, a1, p1.put (by omega) o v⟩⟩
theorem partPh.step {ks : List Ph} {g k : Nat} {w : World} {xs : List Value} (h : partPh ks g w k xs) (hk : k < ks.length) {f0 : Int} {f1 : List Int} (he : ks[k] = ⟨f0, f1⟩) {B1 : Option Addr}
    (h1 : NumS w (Between w (g + 1) w.heap.size) f1 B1) :
    partPh ks g w (k + 1) ((xs.set (k * 2) (.int .i64 f0)).set (k * 2 + 1) (.slice B1 f1.length f1.length)) := by
  have hl := h.1
  obtain ⟨x0, x1⟩ : f0 = ks[k].to ∧ f1 = ks[k].args := by rw [he]; exact ⟨rfl, rfl⟩
  clear he
  subst x0 x1
  refine ⟨by simpa using hl, fun j hj hjk => ?_⟩
  by_cases e : j = k
  · subst e
    refine ⟨?_, ⟨B1, ?_, h1⟩⟩
    · rw [List.getElem?_set_ne (by omega), List.getElem?_set_self (by (try simp only [List.length_set]); omega)]
    · rw [List.getElem?_set_self (by (try simp only [List.length_set]); omega)]
  · obtain ⟨a0, ⟨A1, a1, p1⟩⟩ := h.2 j hj (by omega)
    refine ⟨?_, ⟨A1, ?_, p1⟩⟩
    all_goals
      rw [List.getElem?_set_ne (by omega), List.getElem?_set_ne (by omega)]
      assumption
theorem partPh.done {ks : List Ph} {g : Nat} {w : World} {xs : List Value} {base : Nat} {e : TypeId} {cap : Nat} (h : partPh ks g w ks.length xs) (ho : w.ownsRow base e 2 (.slice (some ⟨g, 0, none⟩) ks.length cap) ks.length xs) :
    PhS w (Between w g w.heap.size) ks (some ⟨g, 0, none⟩) := by
  have hg := ho.lt g rfl
  refine .inr ⟨g, 0, rfl, ⟨Nat.le_refl _, hg.2, urow_flat ho⟩, fun i hi => ?_⟩
  obtain ⟨a0, ⟨A1, a1, p1⟩⟩ := h.2 i hi hi
  have hl := h.1
  have cell : ∀ j, i * 2 ≤ j → j < i * 2 + 2 → w.cell? ⟨g, 0 + j, none⟩ = xs[j]? := by
    intro j _ hj
    rw [Nat.zero_add]
    exact ho.cellAt j (by omega)
  exact ⟨(cell _ (by omega) (by omega)).trans a0, ⟨A1, _, (cell _ (by omega) (by omega)).trans a1, p1.wide (Nat.le_succ _) (Nat.le_refl _)⟩⟩
theorem infoPh : (Tryd.prog.info? 58).map (fun i => (i.zero, i.size, i.bytes)) = some (some (.agg #[.int .i64 0, .slice none 0 0]), 2, 32) := by kernel_rfl
def ToPhSRet (ks : List Ph) (w : World) (ee : Ending) (w' : World) : Prop := (∃ A, ee = .returned (.slice A ks.length ks.length) ∧ PhS w' (Between w' w.heap.size w'.heap.size) ks A) ∧ Below w.heap.size w w'
set_option maxHeartbeats 4000000 in
theorem toPhiS_any (ks : List Ph) (hbk : bulkR bulkPh ks ≤ 1048576) (A : Option Addr) (cap : Nat) (w : World) (hR : PhS w (Lt w.heap.size) ks A) :
    Calls Tryd.prog 114 #[.slice A ks.length cap] w (ToPhSRet ks w) := by
  have hn : ks.length ≤ 1048576 := by have := length_le_bulkR bulkPh ks; omega
  have HK := Lib.hid fun i (h : i < ks.length) => toPhi_any ks[i] (by have := bulkR_mem (f := bulkPh) (List.getElem_mem h); omega)
  clear hbk
  have HR := Lib.hid hR
  clear hR
  obtain ⟨i0, hi, hz0, hz1, hz2⟩ := info_parts infoPh
  go_enter Tryd.func114, Tryd.ntmps114
  go_wp2_with (first
    | (with_reducible refine wpList_make_full _ rfl _ _ 53 rfl w.heap.size 58 i0 (.agg #[.int .i64 0, .slice none 0 0]) 2 Tryd.underlying53 hi hz0 hz1 _ _ _ _ ks.length rfl rfl rfl rfl ?c1 ?c2 ?c3 ?_)
    | fail)
  case c1 => rw [hz2]; omega
  case c2 => unfold maxLen; omega
  case c3 => exact Nat.le_refl _
  intro w1 hown hgrow
  have hb0 : Below w.heap.size w w1 := (Below.refl _ _).grown hgrow (Nat.le_refl _) (fun k e => by cases e)
  obtain ⟨xs0, hown0, hp0⟩ : ∃ xs0, w1.ownsRow w.heap.size 58 2 (.slice (some ⟨w.heap.size, 0, none⟩) ks.length ks.length) ks.length xs0 ∧ partPh ks w.heap.size w1 0 xs0 := ⟨_, hown, hown.1, fun j _ hj => absurd hj (by omega)⟩
  clear hown
  have HO0 := Lib.hid hown0
  have HP0 := Lib.hid hp0
  clear hown0 hgrow hp0
  go_wp2_with fail
  go_loopw [4] (fun i wr => ∃ (k : Nat) (xs : List Value), k ≤ ks.length ∧ i = .int .i64 k ∧ wr.ownsRow w.heap.size 58 2 (.slice (some ⟨w.heap.size, 0, none⟩) ks.length ks.length) ks.length xs ∧ partPh ks w.heap.size wr k xs ∧ Below w.heap.size w wr) (fun i _ => ks.length - (intOf i).toNat)
  case atStart => exact ⟨0, xs0, Nat.zero_le _, rfl, HO0.out, HP0.out, hb0⟩
  case round =>
    clear HO0 hb0 HP0
    obtain ⟨k, xs, hk, rfl, hown, hp, hb⟩ := hrel
    have hbs := hb.size
    by_cases hlt : k < ks.length
    · obtain ⟨b, o, rfl, hB, d0, ⟨A1, c1, d1, r1⟩⟩ := (HR.out.on hb hbs).at_ hlt
      have CK := HK.out k hlt _ wr ⟨A1, c1, rfl, r1⟩
      have HX := Lib.hid hp.1
      have HP := Lib.hid hp
      clear hp r1
      unfold ToPhRet at CK
      generalize hkd : ks[k] = kid at CK d0 d1
      have HKD := Lib.hid hkd
      clear hkd
      obtain ⟨f0, f1⟩ := kid
      dsimp only at d0 d1 CK
      replace CK := Lib.hid CK
      go_wp2_with fail
      (with_reducible refine Calls.mono CK.out ?_)
      rintro ee w2 ⟨⟨B1, rfl, q1⟩, hb1⟩
      have hown2 := hown.kept (w' := w2) (row := none) ⟨hb1.os, hb1.tape, hb1.output, hb1.size, fun i hi _ => hb1.block i hi⟩ (by simp [Value.ownBlock])
      have hb2 := hb.trans (hb1.mono hbs)
      have hgs := (hown.lt _ rfl).2
      have Q1 := Lib.hid (q1.wide (lo' := w.heap.size + 1) hgs (Nat.le_refl _))
      have HP2 := Lib.hid (HP.out.later hb1)
      clear hown hb hb1 d0 d1 q1 HP
      have hxl : xs.length = ks.length * 2 := HX.out
      have d0 := hown2.cellAt (k * 2) (by omega)
      have e0 := hown2.frozenAt (k * 2)
      have d1 := hown2.cellAt (k * 2 + 1) (by omega)
      have e1 := hown2.frozenAt (k * 2 + 1)
      rw [List.getElem?_eq_getElem (by omega)] at d0 d1
      generalize xs[k * 2] = y0 at *
      generalize xs[k * 2 + 1] = y1 at *
      have HO := Lib.hid hown2
      clear hown2 hxl
      go_wp2_with fail
      go_roundw
      case rel =>
        have hs0 := HO.out.stored (k * 2) (.int .i64 f0)
        have hs1 := hs0.1.stored (k * 2 + 1) (.slice B1 f1.length f1.length)
        have hst := HP2.out.step hlt HKD.out Q1.out
        exact ⟨k + 1, _, by omega, by go_num, hs1.1, ((hst.set (k * 2) _).set (k * 2 + 1) _), ((hb2.setCell (Nat.le_refl _) _).setCell (Nat.le_refl _) _)⟩
      case measure => simp only [intOf]; omega
    · obtain rfl : k = ks.length := by omega
      have HO := Lib.hid (hp.done hown)
      clear hown hp
      go_wp2_with fail
      go_ret
      exact ⟨⟨_, rfl, HO.out⟩, hb⟩
def ToIkRet (x : Ik) (w : World) (ee : Ending) (w' : World) : Prop := (∃ B2, ee = .returned (.agg #[.int .i64 x.op, .int .i64 x.to, .slice B2 x.args.length x.args.length, .int .i64 x.n]) ∧ NumS w' (Between w' w.heap.size w'.heap.size) x.args B2) ∧ Below w.heap.size w w'
set_option maxHeartbeats 4000000 in
theorem toIns_any (x : Ik) (hbk : bulkIk x ≤ 1048576) (v : Value) (w : World) (hV : IkV w (Lt w.heap.size) x v) :
    Calls Tryd.prog 129 #[v] w (ToIkRet x w) := by
  obtain ⟨A2, c2, rfl, r2⟩ := hV
  unfold ToIkRet
  unfold bulkIk at hbk
  obtain ⟨f0, f1, f2, f3⟩ := x
  dsimp only at *
  have C2 := fun W (h : Below w.heap.size w W) => Lib.hid (toIntS_new f2 (by omega) A2 c2 W (r2.on (w' := W) (B' := W.heap.size) h h.size))
  clear r2 hbk
  have T0 := Lib.hid (TriB.new w [.int .i64 f0, .int .i64 f1, .slice A2 f2.length c2, .int .i64 f3] [.int .i64 0, .int .i64 0, .slice none 0 0, .int .i64 0] [.int .i64 f0, .int .i64 f1, .slice none 0 0, .int .i64 0] 168 62 62)
  go_enter Tryd.func129, Tryd.ntmps129
  go_wp2_with fail
  refine Calls.mono (C2 _ (T0.out).below).out ?_
  rintro ee w1 ⟨⟨B2, rfl, q2⟩, hb1⟩
  have T1 := Lib.hid ((T0.out).call hb1)
  have hz1 := (T0.out).size
  have R2_1 := Lib.hid (q2.wide (lo' := w.heap.size + 3) hz1 (Nat.le_refl _))
  clear C2 q2 hb1 hz1
  clear T0
  have c53 := T1.out.ba 3 _ rfl
  have d0 := T1.out.bl 0 _ rfl
  have e0 := T1.out.fl 0
  have g0 := T1.out.br 0 _ rfl
  have p0 := T1.out.fr 0
  have d1 := T1.out.bl 1 _ rfl
  have e1 := T1.out.fl 1
  have g1 := T1.out.br 1 _ rfl
  have p1 := T1.out.fr 1
  have d2 := T1.out.bl 2 _ rfl
  have e2 := T1.out.fl 2
  have g2 := T1.out.br 2 _ rfl
  have p2 := T1.out.fr 2
  have d3 := T1.out.bl 3 _ rfl
  have e3 := T1.out.fl 3
  have g3 := T1.out.br 3 _ rfl
  have p3 := T1.out.fr 3
  go_wp2_with fail
  refine bodyPost_ret (v := .agg #[.int .i64 f0, .int .i64 f1, .slice B2 f2.length f2.length, .int .i64 f3]) (by simp [results, Tryd.results129, go_sem, g0, g1, g2, g3]) rfl ⟨⟨B2, rfl, ?_⟩, ?_⟩
  · exact ((((((R2_1.out.put (g := w.heap.size + 1 + 1) (by omega) 2 _).put (g := w.heap.size + 1 + 1) (by omega) 3 _).put (g := w.heap.size + 1) (by omega) 0 _).put (g := w.heap.size + 1) (by omega) 1 _).put (g := w.heap.size + 1) (by omega) 2 _).put (g := w.heap.size + 1) (by omega) 3 _).wide (by omega) (Nat.le_refl _)
  · exact ((((((T1.out.put 2 _).put 3 _).res 0 _).res 1 _).res 2 _).res 3 _).below
def partIk (ks : List Ik) (g : Nat) (w : World) (k : Nat) (xs : List Value) : Prop := xs.length = ks.length * 4 ∧ ∀ j, (h : j < ks.length) → j < k →
  xs[j * 4]? = some (.int .i64 ks[j].op) ∧ xs[j * 4 + 1]? = some (.int .i64 ks[j].to) ∧ (∃ A, xs[j * 4 + 2]? = some (.slice A ks[j].args.length ks[j].args.length) ∧ NumS w (Between w (g + 1) w.heap.size) ks[j].args A) ∧ xs[j * 4 + 3]? = some (.int .i64 ks[j].n)
theorem partIk.later {ks : List Ik} {g k : Nat} {w w' : World} {xs : List Value} (h : partIk ks g w k xs) (hb : Below w.heap.size w w') : partIk ks g w' k xs := by
  refine ⟨h.1, fun j hj hk => ?_⟩
  obtain ⟨a0, a1, ⟨A2, a2, p2⟩, a3⟩ := h.2 j hj hk
  exact ⟨a0, a1, ⟨A2, a2, p2.later hb (Nat.le_refl _) hb.size⟩, a3⟩
theorem partIk.set {ks : List Ik} {g k : Nat} {w : World} {xs : List Value} (h : partIk ks g w k xs) (o : Nat) (v : Value) : partIk ks g (w.setCell ⟨g, o, none⟩ v) k xs := by
  refine ⟨h.1, fun j hj hk => ?_⟩
  obtain ⟨a0, a1, ⟨A2, a2, p2⟩, a3⟩ := h.2 j hj hk
  exact ⟨a0, a1, ⟨A2, a2, p2.put (by omega) o v⟩, a3⟩
theorem partIk.step {ks : List Ik} {g k : Nat} {w : World} {xs : List Value} (h : partIk ks g w k xs) (hk : k < ks.length) {f0 : Int} {f1 : Int} {f2 : List Int} {f3 : Int} (he : ks[k] = ⟨f0, f1, f2, f3⟩) {B2 : Option Addr}
    (h2 : NumS w (Between w (g + 1) w.heap.size) f2 B2) :
    partIk ks g w (k + 1) ((((xs.set (k * 4) (.int .i64 f0)).set (k * 4 + 1) (.int .i64 f1)).set (k * 4 + 2) (.slice B2 f2.length f2.length)).set (k * 4 + 3) (.int .i64 f3)) := by
  have hl := h.1
  obtain ⟨x0, x1, x2, x3⟩ : f0 = ks[k].op ∧ f1 = ks[k].to ∧ f2 = ks[k].args ∧ f3 = ks[k].n := by rw [he]; exact ⟨rfl, rfl, rfl, rfl⟩
  clear he
  subst x0 x1 x2 x3
  refine ⟨by simpa using hl, fun j hj hjk => ?_⟩
  by_cases e : j = k
  · subst e
    refine ⟨?_, ?_, ⟨B2, ?_, h2⟩, ?_⟩
    · rw [List.getElem?_set_ne (by omega), List.getElem?_set_ne (by omega), List.getElem?_set_ne (by omega), List.getElem?_set_self (by (try simp only [List.length_set]); omega)]
    · rw [List.getElem?_set_ne (by omega), List.getElem?_set_ne (by omega), List.getElem?_set_self (by (try simp only [List.length_set]); omega)]
    · rw [List.getElem?_set_ne (by omega), List.getElem?_set_self (by (try simp only [List.length_set]); omega)]
    · rw [List.getElem?_set_self (by (try simp only [List.length_set]); omega)]
  · obtain ⟨a0, a1, ⟨A2, a2, p2⟩, a3⟩ := h.2 j hj (by omega)
    refine ⟨?_, ?_, ⟨A2, ?_, p2⟩, ?_⟩
    all_goals
      rw [List.getElem?_set_ne (by omega), List.getElem?_set_ne (by omega), List.getElem?_set_ne (by omega), List.getElem?_set_ne (by omega)]
      assumption
theorem partIk.done {ks : List Ik} {g : Nat} {w : World} {xs : List Value} {base : Nat} {e : TypeId} {cap : Nat} (h : partIk ks g w ks.length xs) (ho : w.ownsRow base e 4 (.slice (some ⟨g, 0, none⟩) ks.length cap) ks.length xs) :
    IkS w (Between w g w.heap.size) ks (some ⟨g, 0, none⟩) := by
  have hg := ho.lt g rfl
  refine .inr ⟨g, 0, rfl, ⟨Nat.le_refl _, hg.2, urow_flat ho⟩, fun i hi => ?_⟩
  obtain ⟨a0, a1, ⟨A2, a2, p2⟩, a3⟩ := h.2 i hi hi
  have hl := h.1
  have cell : ∀ j, i * 4 ≤ j → j < i * 4 + 4 → w.cell? ⟨g, 0 + j, none⟩ = xs[j]? := by
    intro j _ hj
    rw [Nat.zero_add]
    exact ho.cellAt j (by omega)
  exact ⟨(cell _ (by omega) (by omega)).trans a0, (cell _ (by omega) (by omega)).trans a1, ⟨A2, _, (cell _ (by omega) (by omega)).trans a2, p2.wide (Nat.le_succ _) (Nat.le_refl _)⟩, (cell _ (by omega) (by omega)).trans a3⟩
theorem infoIk : (Tryd.prog.info? 62).map (fun i => (i.zero, i.size, i.bytes)) = some (some (.agg #[.int .i64 0, .int .i64 0, .slice none 0 0, .int .i64 0]), 4, 48) := by kernel_rfl
def ToIkSRet (ks : List Ik) (w : World) (ee : Ending) (w' : World) : Prop := (∃ A, ee = .returned (.slice A ks.length ks.length) ∧ IkS w' (Between w' w.heap.size w'.heap.size) ks A) ∧ Below w.heap.size w w'
set_option maxHeartbeats 4000000 in
theorem toInsS_any (ks : List Ik) (hbk : bulkR bulkIk ks ≤ 1048576) (A : Option Addr) (cap : Nat) (w : World) (hR : IkS w (Lt w.heap.size) ks A) :
    Calls Tryd.prog 115 #[.slice A ks.length cap] w (ToIkSRet ks w) := by
  have hn : ks.length ≤ 1048576 := by have := length_le_bulkR bulkIk ks; omega
  have HK := Lib.hid fun i (h : i < ks.length) => toIns_any ks[i] (by have := bulkR_mem (f := bulkIk) (List.getElem_mem h); omega)
  clear hbk
  have HR := Lib.hid hR
  clear hR
  obtain ⟨i0, hi, hz0, hz1, hz2⟩ := info_parts infoIk
  go_enter Tryd.func115, Tryd.ntmps115
  go_wp2_with (first
    | (with_reducible refine wpList_make_full _ rfl _ _ 54 rfl w.heap.size 62 i0 (.agg #[.int .i64 0, .int .i64 0, .slice none 0 0, .int .i64 0]) 4 Tryd.underlying54 hi hz0 hz1 _ _ _ _ ks.length rfl rfl rfl rfl ?c1 ?c2 ?c3 ?_)
    | fail)
  case c1 => rw [hz2]; omega
  case c2 => unfold maxLen; omega
  case c3 => exact Nat.le_refl _
  intro w1 hown hgrow
  have hb0 : Below w.heap.size w w1 := (Below.refl _ _).grown hgrow (Nat.le_refl _) (fun k e => by cases e)
  obtain ⟨xs0, hown0, hp0⟩ : ∃ xs0, w1.ownsRow w.heap.size 62 4 (.slice (some ⟨w.heap.size, 0, none⟩) ks.length ks.length) ks.length xs0 ∧ partIk ks w.heap.size w1 0 xs0 := ⟨_, hown, hown.1, fun j _ hj => absurd hj (by omega)⟩
  clear hown
  have HO0 := Lib.hid hown0
  have HP0 := Lib.hid hp0
  clear hown0 hgrow hp0
  go_wp2_with fail
  go_loopw [4] (fun i wr => ∃ (k : Nat) (xs : List Value), k ≤ ks.length ∧ i = .int .i64 k ∧ wr.ownsRow w.heap.size 62 4 (.slice (some ⟨w.heap.size, 0, none⟩) ks.length ks.length) ks.length xs ∧ partIk ks w.heap.size wr k xs ∧ Below w.heap.size w wr) (fun i _ => ks.length - (intOf i).toNat)
  case atStart => exact ⟨0, xs0, Nat.zero_le _, rfl, HO0.out, HP0.out, hb0⟩
  case round =>
    clear HO0 hb0 HP0
    obtain ⟨k, xs, hk, rfl, hown, hp, hb⟩ := hrel
    have hbs := hb.size
    by_cases hlt : k < ks.length
    · obtain ⟨b, o, rfl, hB, d0, d1, ⟨A2, c2, d2, r2⟩, d3⟩ := (HR.out.on hb hbs).at_ hlt
      have CK := HK.out k hlt _ wr ⟨A2, c2, rfl, r2⟩
      have HX := Lib.hid hp.1
      have HP := Lib.hid hp
      clear hp r2
      unfold ToIkRet at CK
      generalize hkd : ks[k] = kid at CK d0 d1 d2 d3
      have HKD := Lib.hid hkd
      clear hkd
      obtain ⟨f0, f1, f2, f3⟩ := kid
      dsimp only at d0 d1 d2 d3 CK
      replace CK := Lib.hid CK
      go_wp2_with fail
      (with_reducible refine Calls.mono CK.out ?_)
      rintro ee w2 ⟨⟨B2, rfl, q2⟩, hb1⟩
      have hown2 := hown.kept (w' := w2) (row := none) ⟨hb1.os, hb1.tape, hb1.output, hb1.size, fun i hi _ => hb1.block i hi⟩ (by simp [Value.ownBlock])
      have hb2 := hb.trans (hb1.mono hbs)
      have hgs := (hown.lt _ rfl).2
      have Q2 := Lib.hid (q2.wide (lo' := w.heap.size + 1) hgs (Nat.le_refl _))
      have HP2 := Lib.hid (HP.out.later hb1)
      clear hown hb hb1 d0 d1 d2 d3 q2 HP
      have hxl : xs.length = ks.length * 4 := HX.out
      have d0 := hown2.cellAt (k * 4) (by omega)
      have e0 := hown2.frozenAt (k * 4)
      have d1 := hown2.cellAt (k * 4 + 1) (by omega)
      have e1 := hown2.frozenAt (k * 4 + 1)
      have d2 := hown2.cellAt (k * 4 + 2) (by omega)
      have e2 := hown2.frozenAt (k * 4 + 2)
      have d3 := hown2.cellAt (k * 4 + 3) (by omega)
      have e3 := hown2.frozenAt (k * 4 + 3)
      rw [List.getElem?_eq_getElem (by omega)] at d0 d1 d2 d3
      generalize xs[k * 4] = y0 at *
      generalize xs[k * 4 + 1] = y1 at *
      generalize xs[k * 4 + 2] = y2 at *
      generalize xs[k * 4 + 3] = y3 at *
      have HO := Lib.hid hown2
      clear hown2 hxl
      go_wp2_with fail
      go_roundw
      case rel =>
        have hs0 := HO.out.stored (k * 4) (.int .i64 f0)
        have hs1 := hs0.1.stored (k * 4 + 1) (.int .i64 f1)
        have hs2 := hs1.1.stored (k * 4 + 2) (.slice B2 f2.length f2.length)
        have hs3 := hs2.1.stored (k * 4 + 3) (.int .i64 f3)
        have hst := HP2.out.step hlt HKD.out Q2.out
        exact ⟨k + 1, _, by omega, by go_num, hs3.1, ((((hst.set (k * 4) _).set (k * 4 + 1) _).set (k * 4 + 2) _).set (k * 4 + 3) _), ((((hb2.setCell (Nat.le_refl _) _).setCell (Nat.le_refl _) _).setCell (Nat.le_refl _) _).setCell (Nat.le_refl _) _)⟩
      case measure => simp only [intOf]; omega
    · obtain rfl : k = ks.length := by omega
      have HO := Lib.hid (hp.done hown)
      clear hown hp
      go_wp2_with fail
      go_ret
      exact ⟨⟨_, rfl, HO.out⟩, hb⟩
def ToBkRet (x : Bk) (w : World) (ee : Ending) (w' : World) : Prop := (∃ B0 B1 B4, ee = .returned (.agg #[.slice B0 x.phis.length x.phis.length, .slice B1 x.ins.length x.ins.length, .int .i64 x.jump, .int .i64 x.on, .slice B4 x.next.length x.next.length]) ∧ PhS w' (Between w' w.heap.size w'.heap.size) x.phis B0 ∧ IkS w' (Between w' w.heap.size w'.heap.size) x.ins B1 ∧ NumS w' (Between w' w.heap.size w'.heap.size) x.next B4) ∧ Below w.heap.size w w'
set_option maxHeartbeats 4000000 in
theorem toBlock_any (x : Bk) (hbk : bulkBk x ≤ 1048576) (v : Value) (w : World) (hV : BkV w (Lt w.heap.size) x v) :
    Calls Tryd.prog 92 #[v] w (ToBkRet x w) := by
  obtain ⟨A0, c0, A1, c1, A4, c4, rfl, r0, r1, r4⟩ := hV
  unfold ToBkRet
  unfold bulkBk at hbk
  obtain ⟨f0, f1, f2, f3, f4⟩ := x
  dsimp only at *
  have C0 := fun W (h : Below w.heap.size w W) => Lib.hid (toPhiS_any f0 (by omega) A0 c0 W (r0.on (w' := W) (B' := W.heap.size) h h.size))
  have C1 := fun W (h : Below w.heap.size w W) => Lib.hid (toInsS_any f1 (by omega) A1 c1 W (r1.on (w' := W) (B' := W.heap.size) h h.size))
  have C4 := fun W (h : Below w.heap.size w W) => Lib.hid (toIntS_new f4 (by omega) A4 c4 W (r4.on (w' := W) (B' := W.heap.size) h h.size))
  clear r0 r1 r4 hbk
  have T0 := Lib.hid (TriB.new w [.slice A0 f0.length c0, .slice A1 f1.length c1, .int .i64 f2, .int .i64 f3, .slice A4 f4.length c4] [.slice none 0 0, .slice none 0 0, .int .i64 0, .int .i64 0, .slice none 0 0] [.slice none 0 0, .slice none 0 0, .int .i64 0, .int .i64 0, .slice none 0 0] 132 56 56)
  go_enter Tryd.func92, Tryd.ntmps92
  go_wp2_with fail
  refine Calls.mono (C0 _ (T0.out).below).out ?_
  rintro ee w1 ⟨⟨B0, rfl, q0⟩, hb1⟩
  have T1 := Lib.hid ((T0.out).call hb1)
  have hz1 := (T0.out).size
  have R0_1 := Lib.hid (q0.wide (lo' := w.heap.size + 3) hz1 (Nat.le_refl _))
  clear C0 q0 hb1 hz1
  clear T0
  have c51 := T1.out.ba 1 _ rfl
  have d0 := T1.out.bl 0 _ rfl
  have e0 := T1.out.fl 0
  go_wp2_with fail
  clear c51 d0 e0
  refine Calls.mono (C1 _ ((T1.out).put 0 (.slice B0 f0.length f0.length)).below).out ?_
  rintro ee w2 ⟨⟨B1, rfl, q1⟩, hb2⟩
  have T2 := Lib.hid (((T1.out).put 0 (.slice B0 f0.length f0.length)).call hb2)
  have hz2 := ((T1.out).put 0 (.slice B0 f0.length f0.length)).size
  have R0_2 := Lib.hid (((R0_1.out.put (g := w.heap.size + 1 + 1) (by omega) 0 (.slice B0 f0.length f0.length))).later hb2 (Nat.le_refl _) hb2.size)
  have R1_2 := Lib.hid (q1.wide (lo' := w.heap.size + 3) hz2 (Nat.le_refl _))
  clear C1 q1 hb2 hz2
  clear T1 R0_1
  have c52 := T2.out.ba 2 _ rfl
  have c53 := T2.out.ba 3 _ rfl
  have c54 := T2.out.ba 4 _ rfl
  have d1 := T2.out.bl 1 _ rfl
  have e1 := T2.out.fl 1
  have d2 := T2.out.bl 2 _ rfl
  have e2 := T2.out.fl 2
  have d3 := T2.out.bl 3 _ rfl
  have e3 := T2.out.fl 3
  go_wp2_with fail
  clear c52 c53 c54 d1 e1 d2 e2 d3 e3
  refine Calls.mono (C4 _ ((((T2.out).put 1 (.slice B1 f1.length f1.length)).put 2 (.int .i64 f2)).put 3 (.int .i64 f3)).below).out ?_
  rintro ee w3 ⟨⟨B4, rfl, q4⟩, hb3⟩
  have T3 := Lib.hid (((((T2.out).put 1 (.slice B1 f1.length f1.length)).put 2 (.int .i64 f2)).put 3 (.int .i64 f3)).call hb3)
  have hz3 := ((((T2.out).put 1 (.slice B1 f1.length f1.length)).put 2 (.int .i64 f2)).put 3 (.int .i64 f3)).size
  have R0_3 := Lib.hid (((((R0_2.out.put (g := w.heap.size + 1 + 1) (by omega) 1 (.slice B1 f1.length f1.length)).put (g := w.heap.size + 1 + 1) (by omega) 2 (.int .i64 f2)).put (g := w.heap.size + 1 + 1) (by omega) 3 (.int .i64 f3))).later hb3 (Nat.le_refl _) hb3.size)
  have R1_3 := Lib.hid (((((R1_2.out.put (g := w.heap.size + 1 + 1) (by omega) 1 (.slice B1 f1.length f1.length)).put (g := w.heap.size + 1 + 1) (by omega) 2 (.int .i64 f2)).put (g := w.heap.size + 1 + 1) (by omega) 3 (.int .i64 f3))).later hb3 (Nat.le_refl _) hb3.size)
  have R4_3 := Lib.hid (q4.wide (lo' := w.heap.size + 3) hz3 (Nat.le_refl _))
  clear C4 q4 hb3 hz3
  clear T2 R0_2 R1_2
  have d0 := T3.out.bl 0 _ rfl
  have e0 := T3.out.fl 0
  have g0 := T3.out.br 0 _ rfl
  have p0 := T3.out.fr 0
  have d1 := T3.out.bl 1 _ rfl
  have e1 := T3.out.fl 1
  have g1 := T3.out.br 1 _ rfl
  have p1 := T3.out.fr 1
  have d2 := T3.out.bl 2 _ rfl
  have e2 := T3.out.fl 2
  have g2 := T3.out.br 2 _ rfl
  have p2 := T3.out.fr 2
  have d3 := T3.out.bl 3 _ rfl
  have e3 := T3.out.fl 3
  have g3 := T3.out.br 3 _ rfl
  have p3 := T3.out.fr 3
  have d4 := T3.out.bl 4 _ rfl
  have e4 := T3.out.fl 4
  have g4 := T3.out.br 4 _ rfl
  have p4 := T3.out.fr 4
  go_wp2_with fail
  refine bodyPost_ret (v := .agg #[.slice B0 f0.length f0.length, .slice B1 f1.length f1.length, .int .i64 f2, .int .i64 f3, .slice B4 f4.length f4.length]) (by simp [results, Tryd.results92, go_sem, g0, g1, g2, g3, g4]) rfl ⟨⟨B0, B1, B4, rfl, ?_, ?_, ?_⟩, ?_⟩
  · exact ((((((R0_3.out.put (g := w.heap.size + 1 + 1) (by omega) 4 _).put (g := w.heap.size + 1) (by omega) 0 _).put (g := w.heap.size + 1) (by omega) 1 _).put (g := w.heap.size + 1) (by omega) 2 _).put (g := w.heap.size + 1) (by omega) 3 _).put (g := w.heap.size + 1) (by omega) 4 _).wide (by omega) (Nat.le_refl _)
  · exact ((((((R1_3.out.put (g := w.heap.size + 1 + 1) (by omega) 4 _).put (g := w.heap.size + 1) (by omega) 0 _).put (g := w.heap.size + 1) (by omega) 1 _).put (g := w.heap.size + 1) (by omega) 2 _).put (g := w.heap.size + 1) (by omega) 3 _).put (g := w.heap.size + 1) (by omega) 4 _).wide (by omega) (Nat.le_refl _)
  · exact ((((((R4_3.out.put (g := w.heap.size + 1 + 1) (by omega) 4 _).put (g := w.heap.size + 1) (by omega) 0 _).put (g := w.heap.size + 1) (by omega) 1 _).put (g := w.heap.size + 1) (by omega) 2 _).put (g := w.heap.size + 1) (by omega) 3 _).put (g := w.heap.size + 1) (by omega) 4 _).wide (by omega) (Nat.le_refl _)
  · exact ((((((T3.out.put 4 _).res 0 _).res 1 _).res 2 _).res 3 _).res 4 _).below
def partBk (ks : List Bk) (g : Nat) (w : World) (k : Nat) (xs : List Value) : Prop := xs.length = ks.length * 5 ∧ ∀ j, (h : j < ks.length) → j < k →
  (∃ A, xs[j * 5]? = some (.slice A ks[j].phis.length ks[j].phis.length) ∧ PhS w (Between w (g + 1) w.heap.size) ks[j].phis A) ∧ (∃ A, xs[j * 5 + 1]? = some (.slice A ks[j].ins.length ks[j].ins.length) ∧ IkS w (Between w (g + 1) w.heap.size) ks[j].ins A) ∧ xs[j * 5 + 2]? = some (.int .i64 ks[j].jump) ∧ xs[j * 5 + 3]? = some (.int .i64 ks[j].on) ∧ (∃ A, xs[j * 5 + 4]? = some (.slice A ks[j].next.length ks[j].next.length) ∧ NumS w (Between w (g + 1) w.heap.size) ks[j].next A)
theorem partBk.later {ks : List Bk} {g k : Nat} {w w' : World} {xs : List Value} (h : partBk ks g w k xs) (hb : Below w.heap.size w w') : partBk ks g w' k xs := by
  refine ⟨h.1, fun j hj hk => ?_⟩
  obtain ⟨⟨A0, a0, p0⟩, ⟨A1, a1, p1⟩, a2, a3, ⟨A4, a4, p4⟩⟩ := h.2 j hj hk
  exact ⟨⟨A0, a0, p0.later hb (Nat.le_refl _) hb.size⟩, ⟨A1, a1, p1.later hb (Nat.le_refl _) hb.size⟩, a2, a3, ⟨A4, a4, p4.later hb (Nat.le_refl _) hb.size⟩⟩
theorem partBk.set {ks : List Bk} {g k : Nat} {w : World} {xs : List Value} (h : partBk ks g w k xs) (o : Nat) (v : Value) : partBk ks g (w.setCell ⟨g, o, none⟩ v) k xs := by
  refine ⟨h.1, fun j hj hk => ?_⟩
  obtain ⟨⟨A0, a0, p0⟩, ⟨A1, a1, p1⟩, a2, a3, ⟨A4, a4, p4⟩⟩ := h.2 j hj hk
  exact ⟨⟨A0, a0, p0.put (by omega) o v⟩, ⟨A1, a1, p1.put (by omega) o v⟩, a2, a3, ⟨A4, a4, p4.put (by omega) o v⟩⟩
theorem partBk.step {ks : List Bk} {g k : Nat} {w : World} {xs : List Value} (h : partBk ks g w k xs) (hk : k < ks.length) {f0 : List Ph} {f1 : List Ik} {f2 : Int} {f3 : Int} {f4 : List Int} (he : ks[k] = ⟨f0, f1, f2, f3, f4⟩) {B0 B1 B4 : Option Addr}
    (h0 : PhS w (Between w (g + 1) w.heap.size) f0 B0) (h1 : IkS w (Between w (g + 1) w.heap.size) f1 B1) (h4 : NumS w (Between w (g + 1) w.heap.size) f4 B4) :
    partBk ks g w (k + 1) (((((xs.set (k * 5) (.slice B0 f0.length f0.length)).set (k * 5 + 1) (.slice B1 f1.length f1.length)).set (k * 5 + 2) (.int .i64 f2)).set (k * 5 + 3) (.int .i64 f3)).set (k * 5 + 4) (.slice B4 f4.length f4.length)) := by
  have hl := h.1
  obtain ⟨x0, x1, x2, x3, x4⟩ : f0 = ks[k].phis ∧ f1 = ks[k].ins ∧ f2 = ks[k].jump ∧ f3 = ks[k].on ∧ f4 = ks[k].next := by rw [he]; exact ⟨rfl, rfl, rfl, rfl, rfl⟩
  clear he
  subst x0 x1 x2 x3 x4
  refine ⟨by simpa using hl, fun j hj hjk => ?_⟩
  by_cases e : j = k
  · subst e
    refine ⟨⟨B0, ?_, h0⟩, ⟨B1, ?_, h1⟩, ?_, ?_, ⟨B4, ?_, h4⟩⟩
    · rw [List.getElem?_set_ne (by omega), List.getElem?_set_ne (by omega), List.getElem?_set_ne (by omega), List.getElem?_set_ne (by omega), List.getElem?_set_self (by (try simp only [List.length_set]); omega)]
    · rw [List.getElem?_set_ne (by omega), List.getElem?_set_ne (by omega), List.getElem?_set_ne (by omega), List.getElem?_set_self (by (try simp only [List.length_set]); omega)]
    · rw [List.getElem?_set_ne (by omega), List.getElem?_set_ne (by omega), List.getElem?_set_self (by (try simp only [List.length_set]); omega)]
    · rw [List.getElem?_set_ne (by omega), List.getElem?_set_self (by (try simp only [List.length_set]); omega)]
    · rw [List.getElem?_set_self (by (try simp only [List.length_set]); omega)]
  · obtain ⟨⟨A0, a0, p0⟩, ⟨A1, a1, p1⟩, a2, a3, ⟨A4, a4, p4⟩⟩ := h.2 j hj (by omega)
    refine ⟨⟨A0, ?_, p0⟩, ⟨A1, ?_, p1⟩, ?_, ?_, ⟨A4, ?_, p4⟩⟩
    all_goals
      rw [List.getElem?_set_ne (by omega), List.getElem?_set_ne (by omega), List.getElem?_set_ne (by omega), List.getElem?_set_ne (by omega), List.getElem?_set_ne (by omega)]
      assumption
theorem partBk.done {ks : List Bk} {g : Nat} {w : World} {xs : List Value} {base : Nat} {e : TypeId} {cap : Nat} (h : partBk ks g w ks.length xs) (ho : w.ownsRow base e 5 (.slice (some ⟨g, 0, none⟩) ks.length cap) ks.length xs) :
    BkS w (Between w g w.heap.size) ks (some ⟨g, 0, none⟩) := by
  have hg := ho.lt g rfl
  refine .inr ⟨g, 0, rfl, ⟨Nat.le_refl _, hg.2, urow_flat ho⟩, fun i hi => ?_⟩
  obtain ⟨⟨A0, a0, p0⟩, ⟨A1, a1, p1⟩, a2, a3, ⟨A4, a4, p4⟩⟩ := h.2 i hi hi
  have hl := h.1
  have cell : ∀ j, i * 5 ≤ j → j < i * 5 + 5 → w.cell? ⟨g, 0 + j, none⟩ = xs[j]? := by
    intro j _ hj
    rw [Nat.zero_add]
    exact ho.cellAt j (by omega)
  exact ⟨⟨A0, _, (cell _ (by omega) (by omega)).trans a0, p0.wide (Nat.le_succ _) (Nat.le_refl _)⟩, ⟨A1, _, (cell _ (by omega) (by omega)).trans a1, p1.wide (Nat.le_succ _) (Nat.le_refl _)⟩, (cell _ (by omega) (by omega)).trans a2, (cell _ (by omega) (by omega)).trans a3, ⟨A4, _, (cell _ (by omega) (by omega)).trans a4, p4.wide (Nat.le_succ _) (Nat.le_refl _)⟩⟩
theorem infoBk : (Tryd.prog.info? 56).map (fun i => (i.zero, i.size, i.bytes)) = some (some (.agg #[.slice none 0 0, .slice none 0 0, .int .i64 0, .int .i64 0, .slice none 0 0]), 5, 88) := by kernel_rfl
def ToBkSRet (ks : List Bk) (w : World) (ee : Ending) (w' : World) : Prop := (∃ A, ee = .returned (.slice A ks.length ks.length) ∧ BkS w' (Between w' w.heap.size w'.heap.size) ks A) ∧ Below w.heap.size w w'
set_option maxHeartbeats 4000000 in
theorem toBlockS_any (ks : List Bk) (hbk : bulkR bulkBk ks ≤ 1048576) (A : Option Addr) (cap : Nat) (w : World) (hR : BkS w (Lt w.heap.size) ks A) :
    Calls Tryd.prog 68 #[.slice A ks.length cap] w (ToBkSRet ks w) := by
  have hn : ks.length ≤ 1048576 := by have := length_le_bulkR bulkBk ks; omega
  have HK := Lib.hid fun i (h : i < ks.length) => toBlock_any ks[i] (by have := bulkR_mem (f := bulkBk) (List.getElem_mem h); omega)
  clear hbk
  have HR := Lib.hid hR
  clear hR
  obtain ⟨i0, hi, hz0, hz1, hz2⟩ := info_parts infoBk
  go_enter Tryd.func68, Tryd.ntmps68
  go_wp2_with (first
    | (with_reducible refine wpList_make_full _ rfl _ _ 42 rfl w.heap.size 56 i0 (.agg #[.slice none 0 0, .slice none 0 0, .int .i64 0, .int .i64 0, .slice none 0 0]) 5 Tryd.underlying42 hi hz0 hz1 _ _ _ _ ks.length rfl rfl rfl rfl ?c1 ?c2 ?c3 ?_)
    | fail)
  case c1 => rw [hz2]; omega
  case c2 => unfold maxLen; omega
  case c3 => exact Nat.le_refl _
  intro w1 hown hgrow
  have hb0 : Below w.heap.size w w1 := (Below.refl _ _).grown hgrow (Nat.le_refl _) (fun k e => by cases e)
  obtain ⟨xs0, hown0, hp0⟩ : ∃ xs0, w1.ownsRow w.heap.size 56 5 (.slice (some ⟨w.heap.size, 0, none⟩) ks.length ks.length) ks.length xs0 ∧ partBk ks w.heap.size w1 0 xs0 := ⟨_, hown, hown.1, fun j _ hj => absurd hj (by omega)⟩
  clear hown
  have HO0 := Lib.hid hown0
  have HP0 := Lib.hid hp0
  clear hown0 hgrow hp0
  go_wp2_with fail
  go_loopw [4] (fun i wr => ∃ (k : Nat) (xs : List Value), k ≤ ks.length ∧ i = .int .i64 k ∧ wr.ownsRow w.heap.size 56 5 (.slice (some ⟨w.heap.size, 0, none⟩) ks.length ks.length) ks.length xs ∧ partBk ks w.heap.size wr k xs ∧ Below w.heap.size w wr) (fun i _ => ks.length - (intOf i).toNat)
  case atStart => exact ⟨0, xs0, Nat.zero_le _, rfl, HO0.out, HP0.out, hb0⟩
  case round =>
    clear HO0 hb0 HP0
    obtain ⟨k, xs, hk, rfl, hown, hp, hb⟩ := hrel
    have hbs := hb.size
    by_cases hlt : k < ks.length
    · obtain ⟨b, o, rfl, hB, ⟨A0, c0, d0, r0⟩, ⟨A1, c1, d1, r1⟩, d2, d3, ⟨A4, c4, d4, r4⟩⟩ := (HR.out.on hb hbs).at_ hlt
      have CK := HK.out k hlt _ wr ⟨A0, c0, A1, c1, A4, c4, rfl, r0, r1, r4⟩
      have HX := Lib.hid hp.1
      have HP := Lib.hid hp
      clear hp r0 r1 r4
      unfold ToBkRet at CK
      generalize hkd : ks[k] = kid at CK d0 d1 d2 d3 d4
      have HKD := Lib.hid hkd
      clear hkd
      obtain ⟨f0, f1, f2, f3, f4⟩ := kid
      dsimp only at d0 d1 d2 d3 d4 CK
      replace CK := Lib.hid CK
      go_wp2_with fail
      (with_reducible refine Calls.mono CK.out ?_)
      rintro ee w2 ⟨⟨B0, B1, B4, rfl, q0, q1, q4⟩, hb1⟩
      have hown2 := hown.kept (w' := w2) (row := none) ⟨hb1.os, hb1.tape, hb1.output, hb1.size, fun i hi _ => hb1.block i hi⟩ (by simp [Value.ownBlock])
      have hb2 := hb.trans (hb1.mono hbs)
      have hgs := (hown.lt _ rfl).2
      have Q0 := Lib.hid (q0.wide (lo' := w.heap.size + 1) hgs (Nat.le_refl _))
      have Q1 := Lib.hid (q1.wide (lo' := w.heap.size + 1) hgs (Nat.le_refl _))
      have Q4 := Lib.hid (q4.wide (lo' := w.heap.size + 1) hgs (Nat.le_refl _))
      have HP2 := Lib.hid (HP.out.later hb1)
      clear hown hb hb1 d0 d1 d2 d3 d4 q0 q1 q4 HP
      have hxl : xs.length = ks.length * 5 := HX.out
      have d0 := hown2.cellAt (k * 5) (by omega)
      have e0 := hown2.frozenAt (k * 5)
      have d1 := hown2.cellAt (k * 5 + 1) (by omega)
      have e1 := hown2.frozenAt (k * 5 + 1)
      have d2 := hown2.cellAt (k * 5 + 2) (by omega)
      have e2 := hown2.frozenAt (k * 5 + 2)
      have d3 := hown2.cellAt (k * 5 + 3) (by omega)
      have e3 := hown2.frozenAt (k * 5 + 3)
      have d4 := hown2.cellAt (k * 5 + 4) (by omega)
      have e4 := hown2.frozenAt (k * 5 + 4)
      rw [List.getElem?_eq_getElem (by omega)] at d0 d1 d2 d3 d4
      generalize xs[k * 5] = y0 at *
      generalize xs[k * 5 + 1] = y1 at *
      generalize xs[k * 5 + 2] = y2 at *
      generalize xs[k * 5 + 3] = y3 at *
      generalize xs[k * 5 + 4] = y4 at *
      have HO := Lib.hid hown2
      clear hown2 hxl
      go_wp2_with fail
      go_roundw
      case rel =>
        have hs0 := HO.out.stored (k * 5) (.slice B0 f0.length f0.length)
        have hs1 := hs0.1.stored (k * 5 + 1) (.slice B1 f1.length f1.length)
        have hs2 := hs1.1.stored (k * 5 + 2) (.int .i64 f2)
        have hs3 := hs2.1.stored (k * 5 + 3) (.int .i64 f3)
        have hs4 := hs3.1.stored (k * 5 + 4) (.slice B4 f4.length f4.length)
        have hst := HP2.out.step hlt HKD.out Q0.out Q1.out Q4.out
        exact ⟨k + 1, _, by omega, by go_num, hs4.1, (((((hst.set (k * 5) _).set (k * 5 + 1) _).set (k * 5 + 2) _).set (k * 5 + 3) _).set (k * 5 + 4) _), (((((hb2.setCell (Nat.le_refl _) _).setCell (Nat.le_refl _) _).setCell (Nat.le_refl _) _).setCell (Nat.le_refl _) _).setCell (Nat.le_refl _) _)⟩
      case measure => simp only [intOf]; omega
    · obtain rfl : k = ks.length := by omega
      have HO := Lib.hid (hp.done hown)
      clear hown hp
      go_wp2_with fail
      go_ret
      exact ⟨⟨_, rfl, HO.out⟩, hb⟩
def ToCdRet (x : Cd) (w : World) (ee : Ending) (w' : World) : Prop := (∃ B2, ee = .returned (.agg #[.int .i64 x.params, .int .i64 x.regs, .slice B2 x.blocks.length x.blocks.length]) ∧ BkS w' (Between w' w.heap.size w'.heap.size) x.blocks B2) ∧ Below w.heap.size w w'
set_option maxHeartbeats 4000000 in
theorem toCode_any (x : Cd) (hbk : bulkCd x ≤ 1048576) (v : Value) (w : World) (hV : CdV w (Lt w.heap.size) x v) :
    Calls Tryd.prog 44 #[v] w (ToCdRet x w) := by
  obtain ⟨A2, c2, rfl, r2⟩ := hV
  unfold ToCdRet
  unfold bulkCd at hbk
  obtain ⟨f0, f1, f2⟩ := x
  dsimp only at *
  have C2 := fun W (h : Below w.heap.size w W) => Lib.hid (toBlockS_any f2 (by omega) A2 c2 W (r2.on (w' := W) (B' := W.heap.size) h h.size))
  clear r2 hbk
  have T0 := Lib.hid (TriB.new w [.int .i64 f0, .int .i64 f1, .slice A2 f2.length c2] [.int .i64 0, .int .i64 0, .slice none 0 0] [.int .i64 f0, .int .i64 f1, .slice none 0 0] 75 44 44)
  go_enter Tryd.func44, Tryd.ntmps44
  go_wp2_with fail
  refine Calls.mono (C2 _ (T0.out).below).out ?_
  rintro ee w1 ⟨⟨B2, rfl, q2⟩, hb1⟩
  have T1 := Lib.hid ((T0.out).call hb1)
  have hz1 := (T0.out).size
  have R2_1 := Lib.hid (q2.wide (lo' := w.heap.size + 3) hz1 (Nat.le_refl _))
  clear C2 q2 hb1 hz1
  clear T0
  have d0 := T1.out.bl 0 _ rfl
  have e0 := T1.out.fl 0
  have g0 := T1.out.br 0 _ rfl
  have p0 := T1.out.fr 0
  have d1 := T1.out.bl 1 _ rfl
  have e1 := T1.out.fl 1
  have g1 := T1.out.br 1 _ rfl
  have p1 := T1.out.fr 1
  have d2 := T1.out.bl 2 _ rfl
  have e2 := T1.out.fl 2
  have g2 := T1.out.br 2 _ rfl
  have p2 := T1.out.fr 2
  go_wp2_with fail
  refine bodyPost_ret (v := .agg #[.int .i64 f0, .int .i64 f1, .slice B2 f2.length f2.length]) (by simp [results, Tryd.results44, go_sem, g0, g1, g2]) rfl ⟨⟨B2, rfl, ?_⟩, ?_⟩
  · exact ((((R2_1.out.put (g := w.heap.size + 1 + 1) (by omega) 2 _).put (g := w.heap.size + 1) (by omega) 0 _).put (g := w.heap.size + 1) (by omega) 1 _).put (g := w.heap.size + 1) (by omega) 2 _).wide (by omega) (Nat.le_refl _)
  · exact ((((T1.out.put 2 _).res 0 _).res 1 _).res 2 _).below
def partCd (ks : List Cd) (g : Nat) (w : World) (k : Nat) (xs : List Value) : Prop := xs.length = ks.length * 3 ∧ ∀ j, (h : j < ks.length) → j < k →
  xs[j * 3]? = some (.int .i64 ks[j].params) ∧ xs[j * 3 + 1]? = some (.int .i64 ks[j].regs) ∧ (∃ A, xs[j * 3 + 2]? = some (.slice A ks[j].blocks.length ks[j].blocks.length) ∧ BkS w (Between w (g + 1) w.heap.size) ks[j].blocks A)
theorem partCd.later {ks : List Cd} {g k : Nat} {w w' : World} {xs : List Value} (h : partCd ks g w k xs) (hb : Below w.heap.size w w') : partCd ks g w' k xs := by
  refine ⟨h.1, fun j hj hk => ?_⟩
  obtain ⟨a0, a1, ⟨A2, a2, p2⟩⟩ := h.2 j hj hk
  exact ⟨a0, a1, ⟨A2, a2, p2.later hb (Nat.le_refl _) hb.size⟩⟩
theorem partCd.set {ks : List Cd} {g k : Nat} {w : World} {xs : List Value} (h : partCd ks g w k xs) (o : Nat) (v : Value) : partCd ks g (w.setCell ⟨g, o, none⟩ v) k xs := by
  refine ⟨h.1, fun j hj hk => ?_⟩
  obtain ⟨a0, a1, ⟨A2, a2, p2⟩⟩ := h.2 j hj hk
  exact ⟨a0, a1, ⟨A2, a2, p2.put (by omega) o v⟩⟩
theorem partCd.step {ks : List Cd} {g k : Nat} {w : World} {xs : List Value} (h : partCd ks g w k xs) (hk : k < ks.length) {f0 : Int} {f1 : Int} {f2 : List Bk} (he : ks[k] = ⟨f0, f1, f2⟩) {B2 : Option Addr}
    (h2 : BkS w (Between w (g + 1) w.heap.size) f2 B2) :
    partCd ks g w (k + 1) (((xs.set (k * 3) (.int .i64 f0)).set (k * 3 + 1) (.int .i64 f1)).set (k * 3 + 2) (.slice B2 f2.length f2.length)) := by
  have hl := h.1
  obtain ⟨x0, x1, x2⟩ : f0 = ks[k].params ∧ f1 = ks[k].regs ∧ f2 = ks[k].blocks := by rw [he]; exact ⟨rfl, rfl, rfl⟩
  clear he
  subst x0 x1 x2
  refine ⟨by simpa using hl, fun j hj hjk => ?_⟩
  by_cases e : j = k
  · subst e
    refine ⟨?_, ?_, ⟨B2, ?_, h2⟩⟩
    · rw [List.getElem?_set_ne (by omega), List.getElem?_set_ne (by omega), List.getElem?_set_self (by (try simp only [List.length_set]); omega)]
    · rw [List.getElem?_set_ne (by omega), List.getElem?_set_self (by (try simp only [List.length_set]); omega)]
    · rw [List.getElem?_set_self (by (try simp only [List.length_set]); omega)]
  · obtain ⟨a0, a1, ⟨A2, a2, p2⟩⟩ := h.2 j hj (by omega)
    refine ⟨?_, ?_, ⟨A2, ?_, p2⟩⟩
    all_goals
      rw [List.getElem?_set_ne (by omega), List.getElem?_set_ne (by omega), List.getElem?_set_ne (by omega)]
      assumption
theorem partCd.done {ks : List Cd} {g : Nat} {w : World} {xs : List Value} {base : Nat} {e : TypeId} {cap : Nat} (h : partCd ks g w ks.length xs) (ho : w.ownsRow base e 3 (.slice (some ⟨g, 0, none⟩) ks.length cap) ks.length xs) :
    CdS w (Between w g w.heap.size) ks (some ⟨g, 0, none⟩) := by
  have hg := ho.lt g rfl
  refine .inr ⟨g, 0, rfl, ⟨Nat.le_refl _, hg.2, urow_flat ho⟩, fun i hi => ?_⟩
  obtain ⟨a0, a1, ⟨A2, a2, p2⟩⟩ := h.2 i hi hi
  have hl := h.1
  have cell : ∀ j, i * 3 ≤ j → j < i * 3 + 3 → w.cell? ⟨g, 0 + j, none⟩ = xs[j]? := by
    intro j _ hj
    rw [Nat.zero_add]
    exact ho.cellAt j (by omega)
  exact ⟨(cell _ (by omega) (by omega)).trans a0, (cell _ (by omega) (by omega)).trans a1, ⟨A2, _, (cell _ (by omega) (by omega)).trans a2, p2.wide (Nat.le_succ _) (Nat.le_refl _)⟩⟩
theorem infoCd : (Tryd.prog.info? 44).map (fun i => (i.zero, i.size, i.bytes)) = some (some (.agg #[.int .i64 0, .int .i64 0, .slice none 0 0]), 3, 40) := by kernel_rfl
def ToCdSRet (ks : List Cd) (w : World) (ee : Ending) (w' : World) : Prop := (∃ A, ee = .returned (.slice A ks.length ks.length) ∧ CdS w' (Between w' w.heap.size w'.heap.size) ks A) ∧ Below w.heap.size w w'
set_option maxHeartbeats 4000000 in
theorem toCodeS_any (ks : List Cd) (hbk : bulkR bulkCd ks ≤ 1048576) (A : Option Addr) (cap : Nat) (w : World) (hR : CdS w (Lt w.heap.size) ks A) :
    Calls Tryd.prog 23 #[.slice A ks.length cap] w (ToCdSRet ks w) := by
  have hn : ks.length ≤ 1048576 := by have := length_le_bulkR bulkCd ks; omega
  have HK := Lib.hid fun i (h : i < ks.length) => toCode_any ks[i] (by have := bulkR_mem (f := bulkCd) (List.getElem_mem h); omega)
  clear hbk
  have HR := Lib.hid hR
  clear hR
  obtain ⟨i0, hi, hz0, hz1, hz2⟩ := info_parts infoCd
  go_enter Tryd.func23, Tryd.ntmps23
  go_wp2_with (first
    | (with_reducible refine wpList_make_full _ rfl _ _ 28 rfl w.heap.size 44 i0 (.agg #[.int .i64 0, .int .i64 0, .slice none 0 0]) 3 Tryd.underlying28 hi hz0 hz1 _ _ _ _ ks.length rfl rfl rfl rfl ?c1 ?c2 ?c3 ?_)
    | fail)
  case c1 => rw [hz2]; omega
  case c2 => unfold maxLen; omega
  case c3 => exact Nat.le_refl _
  intro w1 hown hgrow
  have hb0 : Below w.heap.size w w1 := (Below.refl _ _).grown hgrow (Nat.le_refl _) (fun k e => by cases e)
  obtain ⟨xs0, hown0, hp0⟩ : ∃ xs0, w1.ownsRow w.heap.size 44 3 (.slice (some ⟨w.heap.size, 0, none⟩) ks.length ks.length) ks.length xs0 ∧ partCd ks w.heap.size w1 0 xs0 := ⟨_, hown, hown.1, fun j _ hj => absurd hj (by omega)⟩
  clear hown
  have HO0 := Lib.hid hown0
  have HP0 := Lib.hid hp0
  clear hown0 hgrow hp0
  go_wp2_with fail
  go_loopw [4] (fun i wr => ∃ (k : Nat) (xs : List Value), k ≤ ks.length ∧ i = .int .i64 k ∧ wr.ownsRow w.heap.size 44 3 (.slice (some ⟨w.heap.size, 0, none⟩) ks.length ks.length) ks.length xs ∧ partCd ks w.heap.size wr k xs ∧ Below w.heap.size w wr) (fun i _ => ks.length - (intOf i).toNat)
  case atStart => exact ⟨0, xs0, Nat.zero_le _, rfl, HO0.out, HP0.out, hb0⟩
  case round =>
    clear HO0 hb0 HP0
    obtain ⟨k, xs, hk, rfl, hown, hp, hb⟩ := hrel
    have hbs := hb.size
    by_cases hlt : k < ks.length
    · obtain ⟨b, o, rfl, hB, d0, d1, ⟨A2, c2, d2, r2⟩⟩ := (HR.out.on hb hbs).at_ hlt
      have CK := HK.out k hlt _ wr ⟨A2, c2, rfl, r2⟩
      have HX := Lib.hid hp.1
      have HP := Lib.hid hp
      clear hp r2
      unfold ToCdRet at CK
      generalize hkd : ks[k] = kid at CK d0 d1 d2
      have HKD := Lib.hid hkd
      clear hkd
      obtain ⟨f0, f1, f2⟩ := kid
      dsimp only at d0 d1 d2 CK
      replace CK := Lib.hid CK
      go_wp2_with fail
      (with_reducible refine Calls.mono CK.out ?_)
      rintro ee w2 ⟨⟨B2, rfl, q2⟩, hb1⟩
      have hown2 := hown.kept (w' := w2) (row := none) ⟨hb1.os, hb1.tape, hb1.output, hb1.size, fun i hi _ => hb1.block i hi⟩ (by simp [Value.ownBlock])
      have hb2 := hb.trans (hb1.mono hbs)
      have hgs := (hown.lt _ rfl).2
      have Q2 := Lib.hid (q2.wide (lo' := w.heap.size + 1) hgs (Nat.le_refl _))
      have HP2 := Lib.hid (HP.out.later hb1)
      clear hown hb hb1 d0 d1 d2 q2 HP
      have hxl : xs.length = ks.length * 3 := HX.out
      have d0 := hown2.cellAt (k * 3) (by omega)
      have e0 := hown2.frozenAt (k * 3)
      have d1 := hown2.cellAt (k * 3 + 1) (by omega)
      have e1 := hown2.frozenAt (k * 3 + 1)
      have d2 := hown2.cellAt (k * 3 + 2) (by omega)
      have e2 := hown2.frozenAt (k * 3 + 2)
      rw [List.getElem?_eq_getElem (by omega)] at d0 d1 d2
      generalize xs[k * 3] = y0 at *
      generalize xs[k * 3 + 1] = y1 at *
      generalize xs[k * 3 + 2] = y2 at *
      have HO := Lib.hid hown2
      clear hown2 hxl
      go_wp2_with fail
      go_roundw
      case rel =>
        have hs0 := HO.out.stored (k * 3) (.int .i64 f0)
        have hs1 := hs0.1.stored (k * 3 + 1) (.int .i64 f1)
        have hs2 := hs1.1.stored (k * 3 + 2) (.slice B2 f2.length f2.length)
        have hst := HP2.out.step hlt HKD.out Q2.out
        exact ⟨k + 1, _, by omega, by go_num, hs2.1, (((hst.set (k * 3) _).set (k * 3 + 1) _).set (k * 3 + 2) _), (((hb2.setCell (Nat.le_refl _) _).setCell (Nat.le_refl _) _).setCell (Nat.le_refl _) _)⟩
      case measure => simp only [intOf]; omega
    · obtain rfl : k = ks.length := by omega
      have HO := Lib.hid (hp.done hown)
      clear hown hp
      go_wp2_with fail
      go_ret
      exact ⟨⟨_, rfl, HO.out⟩, hb⟩
def ToUnRet (x : Un) (w : World) (ee : Ending) (w' : World) : Prop := (∃ B0, ee = .returned (.agg #[.slice B0 x.codes.length x.codes.length]) ∧ CdS w' (Between w' w.heap.size w'.heap.size) x.codes B0) ∧ Below w.heap.size w w'
set_option maxHeartbeats 4000000 in
theorem toUnit_any (x : Un) (hbk : bulkUn x ≤ 1048576) (v : Value) (w : World) (hV : UnV w (Lt w.heap.size) x v) :
    Calls Tryd.prog 8 #[v] w (ToUnRet x w) := by
  obtain ⟨A0, c0, rfl, r0⟩ := hV
  unfold ToUnRet
  unfold bulkUn at hbk
  obtain ⟨f0⟩ := x
  dsimp only at *
  have C0 := fun W (h : Below w.heap.size w W) => Lib.hid (toCodeS_any f0 (by omega) A0 c0 W (r0.on (w' := W) (B' := W.heap.size) h h.size))
  clear r0 hbk
  have T0 := Lib.hid (TriB.new w [.slice A0 f0.length c0] [.slice none 0 0] [.slice none 0 0] 24 30 30)
  go_enter Tryd.func8, Tryd.ntmps8
  go_wp2_with fail
  refine Calls.mono (C0 _ (T0.out).below).out ?_
  rintro ee w1 ⟨⟨B0, rfl, q0⟩, hb1⟩
  have T1 := Lib.hid ((T0.out).call hb1)
  have hz1 := (T0.out).size
  have R0_1 := Lib.hid (q0.wide (lo' := w.heap.size + 3) hz1 (Nat.le_refl _))
  clear C0 q0 hb1 hz1
  clear T0
  have d0 := T1.out.bl 0 _ rfl
  have e0 := T1.out.fl 0
  have g0 := T1.out.br 0 _ rfl
  have p0 := T1.out.fr 0
  go_wp2_with fail
  refine bodyPost_ret (v := .agg #[.slice B0 f0.length f0.length]) (by simp [results, Tryd.results8, go_sem, g0]) rfl ⟨⟨B0, rfl, ?_⟩, ?_⟩
  · exact ((R0_1.out.put (g := w.heap.size + 1 + 1) (by omega) 0 _).put (g := w.heap.size + 1) (by omega) 0 _).wide (by omega) (Nat.le_refl _)
  · exact ((T1.out.put 0 _).res 0 _).below
end Go.Proofs.YtomhomnibikceaaDoor
