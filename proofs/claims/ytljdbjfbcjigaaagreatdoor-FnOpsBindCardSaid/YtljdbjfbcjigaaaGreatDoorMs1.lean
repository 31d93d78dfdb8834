/-
  The drawing kit: a reader of bytes in memory of the call's own; what pick, of and num return.
-/
import Derived.Test.YtljdbjfbcjigaaaGreatDoorMg1
import Derived.Test.YtljdbjfbcjigaaaGreatDoorMg12
import Derived.Test.YtljdbjfbcjigaaaGreatDoorMg3
import Derived.Test.YtljdbjfbcjigaaaGreatDoorMg4
import Derived.Test.YtljdbjfbcjigaaaGreatDoorMg5
import Derived.ProofKit
import Derived.LaidMore
import Derived.OpenShut
import Derived.Stop.Joined
import Derived.Carry
import Derived.ChangeSame
import Derived.Lib.LaidTab
import Derived.WalkSmall
import Derived.MakeChecks
import Derived.Test.YtljdbjfbcjigaaaGreatDoorRows
import Derived.LaidLaws
import Derived.Deep.Fields
import Derived.Deep.Slices
import Derived.ShapedOpen
import Derived.Laws.BytesArg
import Derived.Laws.BitsAllLaws
import Derived.Laws.BitsLemmas
namespace Go.Proofs.YtljdbjfbcjigaaaGreatDoor
open Go.ChangeShapes Go.WideShapes Go.ChangeAt Go.RowKit Go.WideMaps

theorem law_args {H : Type} {enc : TypeId × Value → H} {P : Program} (hl : laidOutB P = true) {W W' : World} (hb : Below W.heap.size W W') (sp' : Nat → Bool) :
    ∀ {ts : List TypeId} {vs : List Value} {ds : List (DataW H)} {ps : List MemPlace}, (ts.all fun t => P.readableRec t && decide (t < P.types.size)) = true →
      DataW.TrodAll enc P W 0 (fun _ => true) true ts vs ds ps → (∀ p ∈ ps, p.block < W.heap.size) → (∀ p ∈ ps, sp' p.block = true) → DataW.TrodAll enc P W' 0 sp' true ts vs ds ps := by
  intro ts
  induction ts with
  | nil =>
    intro vs ds ps _ h _ _
    match vs, ds, h with
    | [], [], h => exact h
  | cons t ts ih =>
    intro vs ds ps hr h hlt hs
    match vs, ds, h with
    | v :: vs, d :: ds, ⟨p, q, h1, h2, e⟩ =>
      subst e
      simp only [List.all_cons, Bool.and_eq_true, decide_eq_true_eq] at hr
      refine ⟨p, q, ?_, ih hr.2 h2 (fun x hx => hlt x (List.mem_append_right _ hx)) (fun x hx => hs x (List.mem_append_right _ hx)), rfl⟩
      exact WideElems.Trod_stays hl hr.1.1 hr.1.2 h1 (fun x hx => hb.same (hlt x (List.mem_append_left _ hx))) (fun x hx => hs x (List.mem_append_left _ hx))

/-- The types of the variables can be read. -/
def varsFit (P : Program) (ns : List String) : Bool := ns.all fun n => match (P.globalNamed n).bind (fun g => P.globals[g]?) with
  | some x => P.readableRec x.type && decide (x.type < P.types.size)
  | none => false

theorem law_vars {H : Type} {enc : TypeId × Value → H} {P : Program} (hl : laidOutB P = true) {W W' : World} (hb : Below W.heap.size W W') (sp' : Nat → Bool) :
    ∀ {ns : List String} {gs : List (DataW H)} {ps : List MemPlace}, varsFit P ns = true →
      DataW.TrodVars enc P W (fun _ => true) ns gs ps → (∀ p ∈ ps, p.block < W.heap.size) → (∀ p ∈ ps, sp' p.block = true) → DataW.TrodVars enc P W' sp' ns gs ps := by
  intro ns
  induction ns with
  | nil =>
    intro gs ps _ h _ _
    match gs, h with
    | [], h => exact h
  | cons n ns ih =>
    intro gs ps hr h hlt hs
    match gs, h with
    | d :: gs, ⟨g, t, cs, fuel, p, q, h1, h2, h3, h4, h5, e⟩ =>
      subst e
      unfold varsFit at hr
      simp only [List.all_cons, Bool.and_eq_true] at hr
      have hv : ∃ x, P.globals[g]? = some x ∧ x.type = t := by
        cases hx : P.globals[g]? with
        | none => rw [hx] at h2; cases h2
        | some x => rw [hx] at h2; exact ⟨x, rfl, Option.some.inj h2⟩
      obtain ⟨x, hx, rfl⟩ := hv
      have hr1 := hr.1
      rw [h1, Option.bind_some, hx] at hr1
      simp only [Bool.and_eq_true, decide_eq_true_eq] at hr1
      have hg : g < W.heap.size := by
        unfold World.var? at h3
        simp only [h1, Option.bind_some] at h3
        by_cases hlt' : g < W.heap.size
        · exact hlt'
        · rw [Array.getElem?_eq_none (by omega)] at h3; cases h3
      have hp : ∀ x ∈ p, x ∈ MemPlace.row ⟨g, 0, none⟩ cs.size ++ p ++ q := fun x hx => List.mem_append_left _ (List.mem_append_right _ hx)
      have hq : ∀ x ∈ q, x ∈ MemPlace.row ⟨g, 0, none⟩ cs.size ++ p ++ q := fun x hx => List.mem_append_right _ hx
      refine ⟨g, _, cs, fuel, p, q, h1, h2, var?_below hb h1 hg h3, ?_, ih hr.2 h5 (fun x hx => hlt x (hq x hx)) (fun x hx => hs x (hq x hx)), rfl⟩
      exact DataW.trod_stays (kids_book hl hr1.1) (book_sized hr1.1) (fun h => by cases h) ⟨hr1.2, book_self _⟩ h4 (fun x hx => hb.same (hlt x (hp x hx))) (fun x hx => hs x (hp x hx))

/-- The law's last step. -/
theorem law_post {H : Type} {enc : TypeId × Value → H} {P : Program} {f : Func} {s : ChangeSpec} {apart fresh handsOn again : Bool} {W W' : World} {args : Array Value} {ds gs : List (DataW H)} {before : List MemPlace} {tb : TypeId}
    (hl : laidOutB P = true) (hr : (f.params.toList.all fun t => P.readableRec t && decide (t < P.types.size)) = true) (hv : varsFit P s.vars = true)
    (hres : f.resultTypes = #[tb]) (htb : P.underlying tb = some .bool) (hfn : s.fn H (ds ++ gs) = { results := [.lit (.bool true)], args := ds, vars := gs })
    (hW : DataW.Whole enc P f.params.toList s.vars apart W args.toList ds gs before) (hb : Below W.heap.size W W') :
    s.post enc P f apart fresh handsOn again W args (.bool true) W' := by
  have hWhole := hW
  obtain ⟨pa, pv, hA, hV, rfl, hz, hn⟩ := hW
  have hlt : ∀ p ∈ pa ++ pv, p.block < W.heap.size := fun p hp => hWhole.lt p hp
  have ha : ∀ p ∈ pa, p.block < W.heap.size := fun p hp => hlt p (List.mem_append_left _ hp)
  have hvv : ∀ p ∈ pv, p.block < W.heap.size := fun p hp => hlt p (List.mem_append_right _ hp)
  have R : ∀ (b : Nat) (sp : Nat → Bool) (hd : Bool), DataW.TrodAll enc P W' b sp hd f.resultTypes.toList ((Value.bool true).resultList f.resultTypes.size) (s.fn H (ds ++ gs)).results [] := by
    intro b sp hd
    rw [hres, hfn]
    exact trodAll_mk1 (shut_bool htb _)
  have hok : ∀ (j : Nat) (t : TypeId) (r : Value), f.resultTypes[j]? = some t → ((Value.bool true).resultList f.resultTypes.size)[j]? = some r → Value.okWide P W' .any 0 t r := ok_one hres rfl (okWide_bool_mk htb _)
  refine ⟨ds, gs, pa ++ pv, [], pa, pv, hWhole, R _ _ _, ?_, ?_, World.keptBut_mono (fun p hp => ⟨hp, ?_⟩) (hb.frame (· ∈ pa ++ pv)), fun _ => ?_⟩
  · rw [hfn]; exact law_args hl hb _ hr hA ha (fun p hp => by simpa using ha p hp)
  · rw [hfn]; exact law_vars hl hb _ hv hV hvv (fun p hp => by simpa using hvv p hp)
  · rcases List.mem_append.1 hp with h | h
    · exact Or.inr (Or.inl h)
    · exact Or.inr (Or.inr h)
  · have A' := law_args (enc := enc) hl hb (fun _ => true) hr hA ha (fun _ _ => rfl)
    have V' := law_vars (enc := enc) hl hb (fun _ => true) hv hV hvv (fun _ _ => rfl)
    have R' := R 0 (fun _ => true) true
    rw [hfn] at R'
    refine ⟨hok, _, _, ([] ++ pa) ++ pv, ⟨[] ++ pa, pv, trodAll_append A' R', V', rfl, ?_, ?_⟩, ?_⟩
    · intro b off hp
      have hin : MemPlace.cell b off ∈ pa ++ pv := by simpa using hp
      rw [hb.frozen (hlt _ hin)]
      exact hz b off hin
    · intro ha
      have := hn ha
      simpa using this
    · intro p hp _
      simpa using hp

/-- What a listed variable reads as. -/
theorem laid_get {P : Program} {W : World} : ∀ {l : List (String × DataW Unit)} {ps : List MemPlace}, DataW.LaidVars P W l ps → ∀ {n : String} {d : DataW Unit}, (n, d) ∈ l →
    ∃ g t cs fuel p, P.globalNamed n = some g ∧ (P.globals[g]?).map (·.type) = some t ∧ W.var? P n = some cs ∧ DataW.trod (fun _ => ()) P W 0 (fun _ => true) false fuel t cs.toList = some (d, p)
  | [], _, _, _, _, h => by cases h
  | (_, _) :: _, _, ⟨g, t, cs, fuel, p, q, h1, h2, h3, h4, h5, _⟩, n, d, h => by
    rcases List.mem_cons.1 h with e | h
    · cases e
      exact ⟨g, t, cs, fuel, p, h1, h2, h3, h4⟩
    · exact laid_get h5 h

/-- A table of strings as a row lists it. -/
def strData {H : Type} (l : List (List UInt8)) : DataW H := .agg (l.map fun z => .lit (.string z))

theorem cells_of_strs {H : Type} {enc : TypeId × Value → H} {P : Program} {w : World} {base : Nat} {sp : Nat → Bool} {held : Bool} {fuel : Nat} {t e : TypeId} {n : Nat} {cs : List Value} {zs : List (List UInt8)} {p : List MemPlace}
    (ht : P.underlying t = some (.array n e)) (he : P.underlying e = some .string) (hce : P.cellsOf e = 1) (hct : P.cellsOf t = n)
    (h : DataW.trod enc P w base sp held fuel t cs = some (strData zs, p)) : cs = zs.map fun z => Value.string ⟨z.toArray⟩ := by
  obtain ⟨xs, m, rfl, hx, hlen, hxl, hel⟩ := DataW.trod_array ht h
  have hxs : xs.map (·.1) = zs.map fun z => (DataW.lit (.string z) : DataW H) := by
    have := congrArg Prod.fst hx
    simpa [strData] using this.symm
  have hzl : zs.length = n := by
    have := congrArg List.length hxs
    simp at this
    omega
  apply List.ext_getElem?
  intro i
  by_cases hi : i < n
  · have hf := hel i hi
    rw [hce, Nat.mul_one] at hf
    obtain ⟨b, hb⟩ : ∃ b, xs[i]? = some b := ⟨xs[i], List.getElem?_eq_getElem (by omega)⟩
    rw [hb] at hf
    obtain ⟨z, hc, rfl, _⟩ := DataW.trod_string he hf
    have h1 : cs[i]? = some (.string z) := by
      have := congrArg (·[0]?) hc
      simpa [List.getElem?_take, List.getElem?_drop] using this
    have h2 : (xs.map (·.1))[i]? = some (DataW.lit (.string z.data.toList) : DataW H) := by simp [hb]
    rw [hxs] at h2
    simp only [List.getElem?_map, Option.map_eq_some_iff, DataW.lit.injEq, Lit.string.injEq] at h2
    obtain ⟨z', hz', rfl⟩ := h2
    simp [h1, hz']
  · rw [List.getElem?_eq_none (by omega), List.getElem?_eq_none (by simp; omega)]
end Go.Proofs.YtljdbjfbcjigaaaGreatDoor

namespace Go.Proofs.YtljdbjfbcjigaaaGreatDoor
open Go.ChangeShapes Go.WideShapes Go.ChangeAt Go.RowKit Go.WideMaps
set_option maxRecDepth 100000

theorem laidOut : laidOutB Tryz.prog = true := by kernel_rfl
theorem ownNone : ownKnob Tryz.prog.godebug = none := by kernel_rfl
theorem byteKinds_data : (Rows.laid_loop_example_wholeway_impl_byteKinds : DataW Unit) = Lib.tabData .i64 kt := by kernel_rfl
theorem keyTable_data : (Rows.laid_loop_example_wholeway_impl_keyTable : DataW Unit) = strData keyL := by kernel_rfl

/-- Both tables are listed: the walks have them. -/
theorem tabs_of_laid {W : World} {l : List (String × DataW Unit)} (h : laidMet Tryz.prog l W)
    (h1 : ("loop.example/wholeway/impl.byteKinds", Rows.laid_loop_example_wholeway_impl_byteKinds) ∈ l) (h2 : ("loop.example/wholeway/impl.keyTable", Rows.laid_loop_example_wholeway_impl_keyTable) ∈ l) : Tabs W := by
  obtain ⟨ps, hv, _, _⟩ := h
  obtain ⟨g1, t1, cs1, f1, p1, hg1, ht1, hv1, hd1⟩ := laid_get hv h1
  obtain ⟨g2, t2, cs2, f2, p2, hg2, ht2, hv2, hd2⟩ := laid_get hv h2
  obtain rfl := Option.some.inj ((show Tryz.prog.globalNamed "loop.example/wholeway/impl.byteKinds" = some 3 by kernel_rfl).symm.trans hg1)
  obtain rfl := Option.some.inj ((show Tryz.prog.globalNamed "loop.example/wholeway/impl.keyTable" = some 2 by kernel_rfl).symm.trans hg2)
  obtain rfl := Option.some.inj ((show (Tryz.prog.globals[3]?).map (·.type) = some 274 by kernel_rfl).symm.trans ht1)
  obtain rfl := Option.some.inj ((show (Tryz.prog.globals[2]?).map (·.type) = some 270 by kernel_rfl).symm.trans ht2)
  rw [byteKinds_data] at hd1
  rw [keyTable_data] at hd2
  have e1 := Lib.cells_of_tab Tryz.underlying274 Tryz.underlying3 (by kernel_rfl) (by kernel_rfl) hd1
  have e2 := cells_of_strs Tryz.underlying270 Tryz.underlying9 (by kernel_rfl) (by kernel_rfl) hd2
  have b2 : ∃ t fr, W.heap[2]? = some (.cells cs2 t fr) := by
    unfold World.var? at hv2
    simp only [hg2, Option.bind_some] at hv2
    split at hv2
    · rename_i c t fr hc
      cases hv2
      exact ⟨t, fr, hc⟩
    · cases hv2
  obtain ⟨t, fr, hb⟩ := b2
  have hsz : 3 < W.heap.size := by
    unfold World.var? at hv1
    simp only [hg1, Option.bind_some] at hv1
    by_cases hlt : 3 < W.heap.size
    · exact hlt
    · rw [Array.getElem?_eq_none (by omega)] at hv1; cases hv1
  have hsz2 : 2 < W.heap.size := (Array.getElem?_eq_some_iff.1 hb).1
  refine ⟨fun i hi => ?_, ⟨hsz, hsz2⟩, t, fr, ?_⟩
  · rw [World.var?_cell hg1 hv1 i, ← Array.getElem?_toList, e1]
    rw [List.getElem?_map, List.getD_eq_getElem?_getD, List.getElem?_eq_getElem (show i < kt.length from hi)]
    rfl
  · have : cs2 = (keyL.map fun k => Value.string ⟨k.toArray⟩).toArray := by rw [← e2]
    rw [hb, this]
end Go.Proofs.YtljdbjfbcjigaaaGreatDoor

namespace Go.Proofs.YtljdbjfbcjigaaaGreatDoor
open Go.ChangeShapes Go.WideShapes Go.ChangeAt Go.RowKit Go.WideMaps
set_option maxRecDepth 100000

theorem pow10_data : (Rows.laid_internal_strconv_uint64pow10 : DataW Unit) = Lib.tabData .u64 Lib.pow10Tab := by kernel_rfl

theorem sentinel_cell {W : World} {l : List (String × DataW Unit)} {n nm : String} {d : DataW Unit} {g : Nat} (h : laidMet Tryz.prog l W) (hm : (n, .iface nm d) ∈ l)
    (hg : Tryz.prog.globalNamed n = some g) (ht : (Tryz.prog.globals[g]?).map (·.type) = some 116) : ∃ tp p, W.cell? ⟨g, 0, none⟩ = some (.iface tp p) := by
  obtain ⟨ps, hv, _, _⟩ := h
  obtain ⟨g1, t1, cs1, f1, p1, hg1, ht1, hv1, hd1⟩ := laid_get hv hm
  obtain rfl := Option.some.inj (hg.symm.trans hg1)
  obtain rfl := Option.some.inj (ht.symm.trans ht1)
  obtain ⟨f', u, v, hcs, _, _⟩ := iface_of_trod Tryz.underlying116 hd1
  refine ⟨u, v, ?_⟩
  rw [World.var?_cell hg1 hv1 0, ← Array.getElem?_toList, hcs]
  rfl

theorem ntabs_of_laid {W : World} {l : List (String × DataW Unit)} (h : laidMet Tryz.prog l W)
    (h1 : ("internal/strconv.uint64pow10", Rows.laid_internal_strconv_uint64pow10) ∈ l) (h2 : ("strconv.ErrRange", Rows.laid_strconv_ErrRange) ∈ l) (h3 : ("strconv.ErrSyntax", Rows.laid_strconv_ErrSyntax) ∈ l)
    (h4 : ("math/bits.deBruijn64tab", Rows.laid_math_bits_deBruijn64tab) ∈ l) : NTabs W := by
  have hs := sentinel_cell h h3 (show _ = some 8 by kernel_rfl) (by kernel_rfl)
  have hr := sentinel_cell h h2 (show _ = some 9 by kernel_rfl) (by kernel_rfl)
  obtain ⟨ps, hv, _, _⟩ := h
  obtain ⟨g1, t1, cs1, f1, p1, hg1, ht1, hv1, hd1⟩ := laid_get hv h1
  obtain ⟨g4, t4, cs4, f4, p4, hg4, ht4, hv4, hd4⟩ := laid_get hv h4
  obtain rfl := Option.some.inj ((show Tryz.prog.globalNamed "internal/strconv.uint64pow10" = some 7 by kernel_rfl).symm.trans hg1)
  obtain rfl := Option.some.inj ((show Tryz.prog.globalNamed "math/bits.deBruijn64tab" = some 11 by kernel_rfl).symm.trans hg4)
  obtain rfl := Option.some.inj ((show (Tryz.prog.globals[7]?).map (·.type) = some 336 by kernel_rfl).symm.trans ht1)
  rw [pow10_data] at hd1
  have e1 := Lib.cells_of_tab Tryz.underlying336 Tryz.underlying305 (by kernel_rfl) (by kernel_rfl) hd1
  have hsz : 11 < W.heap.size := by
    unfold World.var? at hv4
    simp only [hg4, Option.bind_some] at hv4
    by_cases hlt : 11 < W.heap.size
    · exact hlt
    · rw [Array.getElem?_eq_none (by omega)] at hv4; cases hv4
  refine ⟨hs, hr, ?_, by omega⟩
  unfold Lib.TabIs
  rw [hv1, ← e1]
end Go.Proofs.YtljdbjfbcjigaaaGreatDoor

namespace Go.Proofs.YtljdbjfbcjigaaaGreatDoor
open Go.ChangeShapes Go.WideShapes Go.ChangeAt Go.RowKit Go.WideMaps Go.Deep
set_option maxRecDepth 100000

theorem flat_chunks : ∀ (rows : List (List Value)) (cs : List Value), cs.length = rows.length * 3 → (∀ i r, rows[i]? = some r → (cs.drop (i * 3)).take 3 = r) → cs = rows.flatten
  | [], cs, h, _ => by
    have : cs = [] := List.length_eq_zero_iff.1 (by simpa using h)
    subst this; rfl
  | r :: rows, cs, h, hr => by
    have h0 := hr 0 r rfl
    rw [Nat.zero_mul, List.drop_zero] at h0
    have ih := flat_chunks rows (cs.drop 3) (by rw [List.length_drop, h, List.length_cons]; omega) (fun i r' h' => by
      have := hr (i + 1) r' (by simpa using h')
      rw [List.drop_drop]
      have e : 3 + i * 3 = (i + 1) * 3 := by omega
      rw [e]; exact this)
    rw [List.flatten_cons, ← ih, ← h0, List.take_append_drop]
section
variable {H : Type} {enc : TypeId × Value → H} {P : Program} {w : World} {base : Nat} {spare : Nat → Bool} {held : Bool}
theorem row3_trod {e : TypeId} {f0 f1 f2 : Field} {n : Nat} {cs : List Value} {a b : Int} {z : List UInt8} {p : List MemPlace} (he : P.underlying e = some (.struct #[f0, f1, f2])) (hone : oneCellFields P #[f0, f1, f2] = true) (hC : P.cellsOf e = 3)
    (hi : P.underlying f0.type = some (.int .i64)) (hs : P.underlying f1.type = some .string) (hj : P.underlying f2.type = some (.int .i64))
    (h : DataW.trod enc P w base spare held n e cs = some (.agg [.lit (.int .i64 a), .lit (.string z), .lit (.int .i64 b)], p)) : cs = [.int .i64 a, .string ⟨z.toArray⟩, .int .i64 b] := by
  obtain ⟨ys, n', _, hx, hl, hyl, hf⟩ := DataW.trod_struct he h
  rw [hC] at hl
  obtain ⟨o0, c0⟩ := hone_of hone 0 f0 rfl
  obtain ⟨o1, c1⟩ := hone_of hone 1 f1 rfl
  obtain ⟨o2, c2⟩ := hone_of hone 2 f2 rfl
  match cs, hl with
  | [u, v, t], _ =>
    match ys, hyl with
    | [y0, y1, y2], _ =>
      have h0 := hf 0 f0 rfl
      have h1 := hf 1 f1 rfl
      have h2 := hf 2 f2 rfl
      rw [o0, c0] at h0
      rw [o1, c1] at h1
      rw [o2, c2] at h2
      obtain ⟨k, e1, q1, _⟩ := DataW.trod_int hi (show DataW.trod enc P w base spare held n' f0.type [u] = some y0 from h0)
      obtain ⟨s, e2, q2, _⟩ := DataW.trod_string hs (show DataW.trod enc P w base spare held n' f1.type [v] = some y1 from h1)
      obtain ⟨m, e3, q3, _⟩ := DataW.trod_int hj (show DataW.trod enc P w base spare held n' f2.type [t] = some y2 from h2)
      injection e1 with e1 _
      injection e2 with e2 _
      injection e3 with e3 _
      subst e1; subst e2; subst e3; subst q1; subst q2; subst q3
      have := congrArg Prod.fst hx
      simp at this
      obtain ⟨r1, r2, r3⟩ := this
      subst r1; subst r2; subst r3
      rfl
theorem vars_len {ns : List String} : ∀ {gs : List (DataW H)} {ps : List MemPlace}, DataW.TrodVars enc P w spare ns gs ps → gs.length = ns.length := by
  induction ns with
  | nil => intro gs ps h; cases gs with
    | nil => rfl
    | cons _ _ => cases h
  | cons n ns ih => intro gs ps h; cases gs with
    | nil => cases h
    | cons d gs =>
      obtain ⟨_, _, _, _, _, _, _, _, _, _, h5, _⟩ := h
      rw [List.length_cons, ih h5]; rfl
theorem vars_three {a b c : String} {gs : List (DataW H)} {ps : List MemPlace} (h : DataW.TrodVars enc P w spare [a, b, c] gs ps) : ∃ x y z, gs = [x, y, z] := by
  match gs, vars_len h with
  | [x, y, z], _ => exact ⟨x, y, z, rfl⟩
theorem vars_one {a : String} {gs : List (DataW H)} {ps : List MemPlace} (h : DataW.TrodVars enc P w spare [a] gs ps) : ∃ x, gs = [x] := by
  match gs, vars_len h with
  | [x], _ => exact ⟨x, rfl⟩
def rowData {H : Type} (r : Int × List UInt8 × Int) : DataW H := .agg [.lit (.int .i64 r.1), .lit (.string r.2.1), .lit (.int .i64 r.2.2)]
def rowCells3 (r : Int × List UInt8 × Int) : List Value := [.int .i64 r.1, .string ⟨r.2.1.toArray⟩, .int .i64 r.2.2]
theorem cells_of_rows {t e : TypeId} {f0 f1 f2 : Field} {fuel m : Nat} {cs : List Value} {rows : List (Int × List UInt8 × Int)} {p : List MemPlace} (ht : P.underlying t = some (.array m e)) (he : P.underlying e = some (.struct #[f0, f1, f2])) (hone : oneCellFields P #[f0, f1, f2] = true) (hC : P.cellsOf e = 3) (hct : P.cellsOf t = m * 3)
    (hi : P.underlying f0.type = some (.int .i64)) (hs : P.underlying f1.type = some .string) (hj : P.underlying f2.type = some (.int .i64))
    (h : DataW.trod enc P w base spare held fuel t cs = some (.agg (rows.map rowData), p)) : cs = (rows.map rowCells3).flatten := by
  obtain ⟨xs, k, _, hx, hl, hxl, hel⟩ := DataW.trod_array ht h
  have hxs : xs.map (·.1) = rows.map (rowData (H := H)) := by
    have := congrArg Prod.fst hx
    simpa using this.symm
  have hrl : rows.length = m := by
    have := congrArg List.length hxs
    simp at this
    omega
  refine flat_chunks _ _ (by rw [hl, hct, List.length_map, hrl]) (fun i r hr => ?_)
  rw [List.getElem?_map, Option.map_eq_some_iff] at hr
  obtain ⟨row, hrow, rfl⟩ := hr
  have hi' : i < m := by rw [← hrl]; exact (List.getElem?_eq_some_iff.1 hrow).1
  have hf := hel i hi'
  rw [hC, List.getElem?_eq_getElem (by omega)] at hf
  have hd : (xs[i]'(by omega)).1 = rowData row := by
    have := congrArg (·[i]?) hxs
    simp only [List.getElem?_map] at this
    rw [List.getElem?_eq_getElem (by omega), hrow] at this
    simpa using this
  have hy : xs[i]'(by omega) = (rowData row, (xs[i]'(by omega)).2) := Prod.ext hd rfl
  rw [hy] at hf
  exact row3_trod he hone hC hi hs hj hf
end
def sgRows : List (Int × List UInt8 × Int) := [(3, [43], 3), (4, [45], 3), (5, [42], 4), (6, [47], 4), (7, [37], 4), (8, [60], 2), (9, [61], 2), (10, [38], 1), (11, [33], 5), (12, [64], 5)]
theorem signedOps_data : (Rows.laid_loop_example_wholeway_impl_signedOps : DataW Unit) = .agg (sgRows.map rowData) := by kernel_rfl
theorem sgRows_cells : (sgRows.map rowCells3).flatten = sgCells := by kernel_rfl
theorem sgn_of_laid {W : World} {l : List (String × DataW Unit)} (h : laidMet Tryz.prog l W) (h1 : ("loop.example/wholeway/impl.signedOps", Rows.laid_loop_example_wholeway_impl_signedOps) ∈ l) : Sgn W := by
  obtain ⟨ps, hv, _, _⟩ := h
  obtain ⟨g1, t1, cs1, f1, p1, hg1, ht1, hv1, hd1⟩ := laid_get hv h1
  obtain rfl := Option.some.inj ((show Tryz.prog.globalNamed "loop.example/wholeway/impl.signedOps" = some 1 by kernel_rfl).symm.trans hg1)
  obtain rfl := Option.some.inj ((show (Tryz.prog.globals[1]?).map (·.type) = some 218 by kernel_rfl).symm.trans ht1)
  rw [signedOps_data] at hd1
  have e1 := cells_of_rows Tryz.underlying218 Tryz.underlying149 (by kernel_rfl) (by kernel_rfl) (by kernel_rfl) Tryz.underlying3 Tryz.underlying9 Tryz.underlying3 hd1
  rw [sgRows_cells] at e1
  have b1 : ∃ t fr, W.heap[1]? = some (.cells cs1 t fr) := by
    unfold World.var? at hv1
    simp only [hg1, Option.bind_some] at hv1
    split at hv1
    · rename_i c t fr hc
      cases hv1
      exact ⟨t, fr, hc⟩
    · cases hv1
  obtain ⟨t, fr, hb⟩ := b1
  refine ⟨t, fr, ?_⟩
  have : cs1 = sgCells.toArray := by rw [← e1]
  rw [hb, this]
end Go.Proofs.YtljdbjfbcjigaaaGreatDoor

namespace Go.Proofs.YtljdbjfbcjigaaaGreatDoor
open Go.ChangeShapes Go.WideShapes Go.ChangeAt Go.RowKit Go.WideMaps Go.Deep

section
variable {H : Type} {enc : TypeId × Value → H} {P : Program} {w : World} {base : Nat} {spare : Nat → Bool} {held : Bool}
theorem word_trod {e : TypeId} {f0 f1 : Field} {n : Nat} {cs : List Value} {x : DataW H × List MemPlace} (he : P.underlying e = some (.struct #[f0, f1])) (hone : oneCellFields P #[f0, f1] = true) (hC : P.cellsOf e = 2)
    (hi : P.underlying f0.type = some (.int .i64)) (hs : P.underlying f1.type = some .string) (h : DataW.trod enc P w base spare held n e cs = some x) :
    ∃ (k : Int) (s : ByteArray), cs = [.int .i64 k, .string s] ∧ s.size ≤ maxLen := by
  obtain ⟨ys, n', _, _, hl, hyl, hf⟩ := DataW.trod_struct he h
  rw [hC] at hl
  obtain ⟨o0, c0⟩ := hone_of hone 0 f0 rfl
  obtain ⟨o1, c1⟩ := hone_of hone 1 f1 rfl
  match cs, hl with
  | [a, b], _ =>
    match ys, hyl with
    | [y0, y1], _ =>
      have h0 := hf 0 f0 rfl
      have h1 := hf 1 f1 rfl
      rw [o0, c0] at h0
      rw [o1, c1] at h1
      obtain ⟨k, e1, _, _⟩ := DataW.trod_int hi (show DataW.trod enc P w base spare held n' f0.type [a] = some y0 from h0)
      obtain ⟨s, e2, _, e3⟩ := DataW.trod_string hs (show DataW.trod enc P w base spare held n' f1.type [b] = some y1 from h1)
      injection e1 with e1 _
      injection e2 with e2 _
      subst e1; subst e2
      exact ⟨k, s, rfl, e3⟩

theorem open_word {r : Reach} {b0 : Nat} {e : TypeId} {f0 f1 : Field} {v : Value} {d : DataW H} {p : List MemPlace} (he : P.underlying e = some (.struct #[f0, f1])) (hone : oneCellFields P #[f0, f1] = true) (hC : P.cellsOf e = 2)
    (hi : P.underlying f0.type = some (.int .i64)) (hs : P.underlying f1.type = some .string) (hv : Value.okWide P w r b0 e v) (h : DataW.Trod enc P w base spare held e v d p) :
    ∃ (k : Int) (s : ByteArray), v = .agg #[.int .i64 k, .string s] ∧ s.size ≤ maxLen := by
  obtain ⟨cs, rfl, hsz⟩ := okWide_struct he hv
  obtain ⟨n, hn⟩ := h
  obtain ⟨k, s, e1, e2⟩ := word_trod he hone hC hi hs hn
  refine ⟨k, s, ?_, e2⟩
  congr 1
  exact Array.ext' (by simpa [Value.cells] using e1)

theorem cell_addr {a : Addr} {v : Value} (h : w.cell? a = some v) : a = ⟨a.block, a.off, none⟩ ∧ a.block < w.heap.size := by
  obtain ⟨b, o, x⟩ := a
  unfold World.cell? at h
  cases hb : w.heap[b]? with
  | none => rw [hb] at h; simp at h
  | some ob =>
    have hlt : b < w.heap.size := (Array.getElem?_eq_some_iff.1 hb).1
    rw [hb] at h
    cases ob with
    | cells c t fr =>
      simp only at h
      split at h
      · cases h
      · rename_i hx
        cases x with
        | none => exact ⟨rfl, hlt⟩
        | some y => simp at hx
    | _ => simp at h

theorem open_words {r : Reach} {b0 : Nat} {t e : TypeId} {f0 f1 : Field} {v : Value} {d : DataW H} {p : List MemPlace} (ht : P.underlying t = some (.slice e)) (he : P.underlying e = some (.struct #[f0, f1])) (hone : oneCellFields P #[f0, f1] = true) (hC : P.cellsOf e = 2)
    (hi : P.underlying f0.type = some (.int .i64)) (hs : P.underlying f1.type = some .string) (hv : Value.okWide P w r b0 t v) (h : DataW.Trod enc P w base spare held t v d p) :
    ∃ (A : Option Addr) (ws : List (Int × ByteArray)) (cap : Nat), v = .slice A ws.length cap ∧ Words w w.heap.size A ws ∧ (∀ x ∈ ws, x.2.size ≤ maxLen) ∧ ws.length ≤ 9223372036854775807 := by
  obtain ⟨A, len, cap, rfl⟩ := okWide_slice ht hv
  obtain ⟨n, hn⟩ := h
  rcases open_slice ht hn with ⟨h0, _⟩ | ⟨a, len', cap', m, n', D, Pl, hcs, _, hl, hm, hmm, hxx, hx⟩
  · simp only [Value.cells, List.cons.injEq, Value.slice.injEq, and_true] at h0
    obtain ⟨rfl, rfl, rfl⟩ := h0
    exact ⟨none, [], 0, rfl, fun h => absurd rfl h, (fun x hx => by cases hx), by simp⟩
  · simp only [Value.cells, List.cons.injEq, Value.slice.injEq, and_true] at hcs
    obtain ⟨rfl, rfl, rfl⟩ := hcs
    have hlm : len ≤ m := by rw [hmm]; split <;> omega
    have each : ∀ i, i < len → ∃ (k : Int) (s : ByteArray), w.cell? (a.add (i * 2)) = some (.int .i64 k) ∧ w.cell? (a.add (i * 2 + 1)) = some (.string s) ∧ s.size ≤ maxLen := by
      intro i hi'
      obtain ⟨cs', hc, htr⟩ := hx i (by omega)
      rw [hC] at hc
      obtain ⟨k, s, rfl, e3⟩ := word_trod he hone hC hi hs htr
      obtain ⟨_, _, hat⟩ := World.cells?_some hc
      have c0 := hat 0 (by omega)
      have c1 := hat 1 (by omega)
      rw [add_add] at c0 c1
      exact ⟨k, s, c0, c1, e3⟩
    obtain ⟨ws, hwl, hws⟩ : ∃ ws : List (Int × ByteArray), ws.length = len ∧ ∀ i, (h : i < ws.length) → w.cell? (a.add (i * 2)) = some (.int .i64 ws[i].1) ∧ w.cell? (a.add (i * 2 + 1)) = some (.string ws[i].2) ∧ ws[i].2.size ≤ maxLen := by
      clear hx hm hlm hmm hl hv hn hxx
      induction len with
      | zero => exact ⟨[], rfl, fun i h => absurd h (by simp)⟩
      | succ len ih =>
        obtain ⟨ws, e1, e2⟩ := ih (fun i h => each i (by omega))
        obtain ⟨k, s, c0, c1, c2⟩ := each len (by omega)
        refine ⟨ws ++ [(k, s)], by simp [e1], fun i h => ?_⟩
        by_cases hi' : i < ws.length
        · rw [List.getElem_append_left hi']; exact e2 i hi'
        · have : i = ws.length := by simp at h; omega
          subst this
          simp only [List.getElem_concat_length]
          rw [e1]
          exact ⟨c0, c1, c2⟩
    subst hwl
    refine ⟨some a, ws, cap, rfl, fun hne => ?_, fun x hx' => ?_, by unfold maxLen at hm; omega⟩
    · have h0 : 0 < ws.length := by cases ws with
        | nil => exact absurd rfl hne
        | cons _ _ => simp
      have c0 := (hws 0 h0).1
      obtain ⟨ea, eb⟩ := cell_addr c0
      obtain ⟨b, o, x⟩ := a
      have hx0 : x = none := by
        have e0 : (⟨b, o, x⟩ : Addr).add (0 * 2) = ⟨b, o, x⟩ := by simp [Addr.add]
        rw [e0] at ea
        injection ea
      subst hx0
      have hadd : ∀ j, (⟨b, o, none⟩ : Addr).add j = ⟨b, o + j, none⟩ := by
        intro j
        unfold Addr.add
        by_cases hj : j = 0
        · rw [if_pos hj, hj, Nat.add_zero]
        · rw [if_neg hj]
      refine ⟨b, o, rfl, ?_, fun k hk => ?_⟩
      · have := hadd (0 * 2); rw [this] at eb; exact eb
      · have := hws k hk
        rw [hadd, hadd] at this
        exact ⟨this.1, this.2.1⟩
    · obtain ⟨j, hj, rfl⟩ := List.getElem_of_mem hx'
      exact (hws j hj).2.2
end
end Go.Proofs.YtljdbjfbcjigaaaGreatDoor

namespace Go.Proofs.YtljdbjfbcjigaaaGreatDoor
open Go.RowKit
set_option maxRecDepth 100000

/-- Bytes that can be read, below block B. -/
def Bytes (w : World) (B : Nat) (A : Option Addr) (l : List UInt8) : Prop :=
  l ≠ [] → ∃ b o, A = some ⟨b, o, none⟩ ∧ b < B ∧ ∀ k, (h : k < l.length) → w.cell? ⟨b, o + k, none⟩ = some (.int .u8 l[k].toNat)
theorem Bytes.at_ {w : World} {B : Nat} {A : Option Addr} {l : List UInt8} (h : Bytes w B A l) {k : Nat} (hk : k < l.length) :
    ∃ b o, A = some ⟨b, o, none⟩ ∧ b < B ∧ ∀ j, (h : j < l.length) → w.cell? ⟨b, o + j, none⟩ = some (.int .u8 l[j].toNat) := h (by intro e; subst e; simp at hk)
theorem Bytes.below {w w' : World} {B : Nat} {A : Option Addr} {l : List UInt8} (h : Bytes w B A l) (hb : Below B w w') : Bytes w' B A l := by
  intro hne
  obtain ⟨b, o, e, hB, hc⟩ := h hne
  exact ⟨b, o, e, hB, fun k hk => (hb.cell (p := ⟨b, _, none⟩) hB).trans (hc k hk)⟩
/-- A reader at block R behind p picks. -/
structure Rd (w : World) (R : Nat) (p : Nat) : Prop where
  ex : ∃ A l cap, l.length ≤ 2000 ∧ w.heap[R]? = some (.cells #[.slice A l.length cap, .int .i64 (p : Int)] 126 (0, 0)) ∧ Bytes w R A l
theorem Rd.lt {w : World} {R p : Nat} (h : Rd w R p) : R < w.heap.size := by
  obtain ⟨A, l, cap, _, h1, _⟩ := h.ex
  exact (Array.getElem?_eq_some_iff.1 h1).1
theorem Rd.keep {w w' : World} {R p : Nat} (h : Rd w R p) (hb : Below w.heap.size w w') : Rd w' R p := by
  have hlt := h.lt
  obtain ⟨A, l, cap, h0, h1, h2⟩ := h.ex
  exact ⟨A, l, cap, h0, by rw [hb.block R hlt]; exact h1, h2.below (hb.mono (by omega))⟩
/-- The world behind a pick: the reader has gone on, and nothing else has turned. -/
def pickW (w : World) (R p q : Nat) : World := (w.setCell ⟨R, 1, none⟩ (.int .i64 ((p + 1 : Nat) : Int))).drewN q
theorem Rd.pick {w : World} {R p : Nat} (h : Rd w R p) (q : Nat) : Rd (pickW w R p q) R (p + 1) := by
  obtain ⟨A, l, cap, h0, h1, h2⟩ := h.ex
  refine ⟨A, l, cap, h0, ?_, ?_⟩
  · show (w.setCell ⟨R, 1, none⟩ _).heap[R]? = _
    rw [heap_setCell_same w R 1 _ _ _ h1]
    rfl
  · have hb : Below R w (pickW w R p q) := below_drewN ((Below.refl R w).setCell (Nat.le_refl _) _) q
    exact h2.below hb
def PickRet (R p n : Nat) (w : World) (e : Ending) (w' : World) : Prop := ∃ r : Nat, r < n ∧ e = .returned (.int .i64 (r : Int)) ∧ ∃ q, w' = pickW w R p q

theorem i64_xor_nat (a b : Nat) (ha : a < 4611686018427387904) (hb : b < 4611686018427387904) : bits .xor .i64 (a : Int) (b : Int) = ((a ^^^ b : Nat) : Int) := by
  have hx : a ^^^ b < 2 ^ 62 := Nat.xor_lt_two_pow (by omega) (by omega)
  show IntKind.i64.wrap ((BitVec.ofInt 64 (a : Int) ^^^ BitVec.ofInt 64 (b : Int)).toNat : Int) = _
  rw [BitVec.toNat_xor, ofInt_u64 a (by omega), ofInt_u64 b (by omega), IntKind.wrap_i64]
  omega

set_option maxHeartbeats 2000000 in
theorem pick_any (R p n : Nat) (w : World) (h : Rd w R p) (hp : p ≤ 1000000) (hn1 : 1 ≤ n) (hn2 : n ≤ 1000) :
    Calls Tryz.prog 55 #[.pointer (some ⟨R, 0, none⟩), .int .i64 (n : Int)] w (PickRet R p n w) := by
  obtain ⟨A, l, cap, hl, hR, hB⟩ := h.ex
  have c0 : w.cell? ⟨R, 0, none⟩ = some (.slice A l.length cap) := by unfold World.cell?; rw [hR]; rfl
  have c1 : w.cell? ⟨R, 1, none⟩ = some (.int .i64 (p : Int)) := by unfold World.cell?; rw [hR]; rfl
  have f1 : w.frozen? ⟨R, 1, none⟩ = false := frozen_of_row w R 1 _ _ hR
  have HR := Lib.hid hR
  clear hR h
  have hq0 : (w.setCell ⟨R, 1, none⟩ (.int .i64 ((p : Int) + 1))) = pickW w R p 0 := rfl
  by_cases hz : l.length = 0
  · have e1 : ((l.length : Int) == 0) = true := by rw [beq_iff_eq]; omega
    have HQ := Lib.hid hq0
    clear hz hq0 hB
    go_enter Tryz.func55, Tryz.ntmps55
    go_wp2
    go_ret
    exact ⟨0, by omega, rfl, 0, HQ.out⟩
  have e1 : ((l.length : Int) == 0) = false := by rw [beq_eq_false_iff_ne]; omega
  have hlpos : 0 < l.length := by omega
  clear hz
  by_cases hpl : p < l.length
  · obtain ⟨b, o, rfl, hbR, hc⟩ := hB.at_ hpl
    have hcp := hc p hpl
    have hv := (l[p]).toNat_lt
    generalize (l[p]).toNat = z at *
    have HQ := Lib.hid hq0
    clear hq0 hB hc
    go_enter Tryz.func55, Tryz.ntmps55
    go_wp2
    go_ways
    go_ret
    refine ⟨z % n, Nat.mod_lt _ (by omega), rfl, 0, HQ.out⟩
  · obtain ⟨b, o, rfl, hbR, hc⟩ := hB.at_ hlpos
    have hq1 : p % l.length < l.length := Nat.mod_lt _ hlpos
    have hq2 : (p * 7 + 3) % l.length < l.length := Nat.mod_lt _ hlpos
    have hc1 := hc _ hq1
    have hc2 := hc _ hq2
    have hv1 := (l[p % l.length]).toNat_lt
    have hv2 := (l[(p * 7 + 3) % l.length]).toNat_lt
    generalize (l[p % l.length]).toNat = z1 at *
    generalize (l[(p * 7 + 3) % l.length]).toNat = z2 at *
    have t1 : (p : Int).tmod (l.length : Int) = ((p % l.length : Nat) : Int) := by rw [Int.tmod_eq_emod_of_nonneg (by omega)]; rfl
    have t2 : ((p : Int) * 7 + 3).tmod (l.length : Int) = (((p * 7 + 3) % l.length : Nat) : Int) := by rw [Int.tmod_eq_emod_of_nonneg (by omega)]; rfl
    have t3 : (p : Int).tdiv (l.length : Int) = ((p / l.length : Nat) : Int) := by rw [Int.tdiv_eq_ediv_of_nonneg (by omega)]; rfl
    have hq3 : p / l.length ≤ p := Nat.div_le_self _ _
    generalize p % l.length = q1 at *
    generalize (p * 7 + 3) % l.length = q2 at *
    generalize p / l.length = q3 at *
    have hne : ¬ ((l.length : Int) = 0) := by omega
    have HQ := Lib.hid hq0
    have hpl' : l.length ≤ p := by omega
    clear hq0 hB hc hpl
    go_enter Tryz.func55, Tryz.ntmps55
    go_wp2
    go_quiet (fail)
    go_wp2
    have hx : ∃ X : Nat, bits BinOp.xor IntKind.i64 ((z1 : Int) * 131 + z2 * 1117 + p * 29 + q3 * 53) (((z1 : Int) * 131 + z2 * 1117 + p * 29 + q3 * 53) / 64) = (X : Int) :=
      ⟨_, i64_xor_nat (z1 * 131 + z2 * 1117 + p * 29 + q3 * 53) ((z1 * 131 + z2 * 1117 + p * 29 + q3 * 53) / 64) (by omega) (by omega)⟩
    obtain ⟨X, hX⟩ := hx
    have hX' : ((X : Int)).tmod (n : Int) = ((X % n : Nat) : Int) := by rw [Int.tmod_eq_emod_of_nonneg (by omega)]; rfl
    rw [hX, hX']
    go_ret
    exact ⟨X % n, Nat.mod_lt _ (by omega), rfl, nq, rfl⟩
end Go.Proofs.YtljdbjfbcjigaaaGreatDoor
