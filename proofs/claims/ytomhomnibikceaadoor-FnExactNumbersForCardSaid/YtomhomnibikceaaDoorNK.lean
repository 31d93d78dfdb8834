/-
  The blocks that lead to one: the program's PredsOf, the model's.
-/
import Derived.Test.YtomhomnibikceaaDoorNI
import Derived.Laws.AppendOwn
namespace Go.Proofs.YtomhomnibikceaaDoor
open Go.RowKit
set_option maxRecDepth 100000

def iCs (l : List Int) : List Value := l.map (Value.int .i64)
theorem iCs_len (l : List Int) : (iCs l).length = l.length := List.length_map _
theorem iCs_app (a b : List Int) : iCs (a ++ b) = iCs a ++ iCs b := List.map_append
theorem new_int (w : World) (n : Int) (t : TypeId) : ∀ j u, [Value.int .i64 n][j]? = some u → (w.alloc (.cells #[.int .i64 n] t)).cell? ((⟨w.heap.size, 0, none⟩ : Addr).add j) = some u := by
  intro j u h
  have hj : j = 0 := by
    have := (List.getElem?_eq_some_iff.1 h).1
    simp at this; omega
  subst hj
  have := alloc_cell w #[.int .i64 n] t (0, 0) 0
  have e : (⟨w.heap.size, 0, none⟩ : Addr).add 0 = ⟨w.heap.size, 0, none⟩ := by simp [Addr.add]
  rw [e, this]
  exact h
theorem int_one (n : Int) : ∀ u ∈ [Value.int .i64 n], u.oneCell' = true := by intro u hu; simp at hu; subst hu; rfl
/-- A list in a row of the call's own. -/
def OwnN (base : Nat) (w : World) (l : List Int) (v : Value) : Prop := w.ownsRow base 3 1 v l.length (iCs l)
theorem OwnN.slice {base : Nat} {w : World} {l : List Int} {v : Value} (h : OwnN base w l v) : ∃ A c, v = .slice A l.length c ∧ NumS w (Between w base w.heap.size) l A := by
  have h' := h
  rcases h.2 with ⟨e, hn⟩ | ⟨g, cap, cur, e, hb, _⟩
  · have hl : l = [] := by
      cases l with
      | nil => rfl
      | cons x xs => simp at hn
    subst hl
    exact ⟨none, 0, e, .inl rfl⟩
  · subst e
    have hg := h'.lt g rfl
    refine ⟨_, _, rfl, NumS.mk ⟨hb, hg.2, urow_flat h'⟩ fun i hi => ?_⟩
    rw [Nat.zero_add, h'.cellAt i (by omega)]
    unfold iCs
    rw [List.getElem?_map, List.getElem?_eq_getElem hi]
    rfl
theorem ownN_below {base : Nat} {w w' : World} {l : List Int} {v : Value} (h : OwnN base w l v) (hb : Below w.heap.size w w') : OwnN base w' l v :=
  World.ownsRow.kept (w' := w') (row := none) h ⟨hb.os, hb.tape, hb.output, hb.size, fun i hi _ => hb.block i hi⟩ (by cases e : v.ownBlock <;> simp)
def PRet (l : List Int) (w : World) (e : Ending) (w' : World) : Prop := (∃ v, e = .returned v ∧ OwnN w.heap.size w' l v) ∧ Below w.heap.size w w'
set_option maxHeartbeats 2000000 in
theorem uIndex_any (l : List Int) (hn : l.length ≤ 1048576) (A : Option Addr) (cap : Nat) (x : Int) (w : World) (hR : NumS w (Lt w.heap.size) l A) :
    Calls Tryd.prog 130 #[.slice A l.length cap, .int .i64 x] w fun e w' => (∃ r, e = .returned (.int .i64 r) ∧ (0 ≤ r ↔ x ∈ l)) ∧ Below w.heap.size w w' := by
  have HR := Lib.hid hR
  clear hR
  go_enter Tryd.func130, Tryd.ntmps130
  go_wp2_with fail
  go_loopw [8] (fun i wr => ∃ (k : Nat), k ≤ l.length ∧ i = .int .i64 k ∧ (∀ j, (h : j < l.length) → j < k → l[j] ≠ x) ∧ Below w.heap.size w wr) (fun i _ => l.length - (intOf i).toNat)
  case atStart => exact ⟨0, Nat.zero_le _, rfl, fun j _ hj => absurd hj (by omega), Below.refl _ _⟩
  case round =>
    obtain ⟨k, hk, rfl, hall, hb⟩ := hrel
    have HA := Lib.hid hall
    clear hall
    have hbs := hb.size
    by_cases hlt : k < l.length
    · obtain ⟨b, o, rfl, hB, c0⟩ := (HR.out.on hb hbs).at_ hlt
      have HM := Lib.hid (List.getElem_mem hlt)
      have HS := Lib.hid (show l[k] ≠ x → ∀ j, (h : j < l.length) → j < k + 1 → l[j] ≠ x from fun h j hj hjk => by
        by_cases e : j = k
        · subst e; exact h
        · exact HA.out j hj (by omega))
      generalize l[k] = r at *
      by_cases he : x = r
      · have q1 : (x == r) = true := beq_yes he
        have HX := Lib.hid he
        clear he
        go_wp2_with fail
        go_ret
        exact ⟨⟨_, rfl, ⟨fun _ => by rw [HX.out]; exact HM.out, fun _ => by omega⟩⟩, hb⟩
      · have q1 : (x == r) = false := beq_no he
        have HX := Lib.hid (HS.out (fun h => he h.symm))
        clear he
        go_wp2_with fail
        go_roundw
        case rel => exact ⟨k + 1, by omega, by go_num, HX.out, hb⟩
        case measure => simp only [intOf]; omega
    · obtain rfl : k = l.length := by omega
      go_wp2_with fail
      go_ret
      refine ⟨⟨_, rfl, ⟨fun h => absurd h (by omega), fun h => ?_⟩⟩, hb⟩
      obtain ⟨i, hi, e⟩ := List.getElem_of_mem h
      exact absurd e (HA.out i hi hi)
open Classical in
noncomputable def hasB (l : List Int) (x : Int) : Bool := decide (x ∈ l)
theorem hasB_iff (l : List Int) (x : Int) : hasB l x = true ↔ x ∈ l := by unfold hasB; exact decide_eq_true_iff
theorem hasB_no (l : List Int) (x : Int) : hasB l x = false ↔ ¬ x ∈ l := by unfold hasB; exact decide_eq_false_iff_not
set_option maxHeartbeats 1000000 in
theorem uContains_any (l : List Int) (hn : l.length ≤ 1048576) (A : Option Addr) (cap : Nat) (x : Int) (w : World) (hR : NumS w (Lt w.heap.size) l A) :
    Calls Tryd.prog 117 #[.slice A l.length cap, .int .i64 x] w (BoolB (hasB l x) w) := by
  have CI := Lib.hid (uIndex_any l hn A cap x w hR)
  clear hR
  have HX := Lib.hid (hasB_iff l x)
  generalize hasB l x = z at *
  go_enter Tryd.func117, Tryd.ntmps117
  go_wp2_with fail
  (with_reducible refine Calls.mono CI.out ?_)
  rintro ee w1 ⟨⟨r, rfl, hr⟩, hb⟩
  have HR := Lib.hid hr
  clear hr
  by_cases h0 : 0 ≤ r
  · go_wp2_with fail
    go_ret
    exact ⟨ret_bool' (HX.out.2 (HR.out.1 h0)).symm, hb⟩
  · go_wp2_with fail
    go_ret
    refine ⟨ret_bool' ?_, hb⟩
    cases z
    · exact decide_eq_false (by omega)
    · exact absurd (HR.out.2 (HX.out.1 (by trivial))) (by omega)
theorem uintInfo : (Tryd.prog.info? 3).map (fun i => (i.zero, i.size, i.bytes)) = some (some (.int .i64 0), 1, 8) := by kernel_rfl
def predsI (c : Cd) (b : Int) : List Int := if 0 ≤ b ∧ b < c.blocks.length then predsL c b else []
theorem OwnN.base {base base' : Nat} {w : World} {l : List Int} {v : Value} (h : OwnN base w l v) (hb : base' ≤ base) : OwnN base' w l v := by
  refine ⟨h.1, ?_⟩
  rcases h.2 with h | ⟨g, cap, cur, e, hg, r⟩
  · exact .inl h
  · exact .inr ⟨g, cap, cur, e, Nat.le_trans hb hg, r⟩
theorem ownN_nil (base : Nat) (w : World) : OwnN base w [] (.slice none 0 0) := ⟨rfl, .inl ⟨rfl, rfl⟩⟩
set_option maxHeartbeats 4000000 in
theorem implPreds_any (c : Cd) (A : Option Addr) (cap : Nat) (b : Int) (w : World) (hR : BkS w (Lt w.heap.size) c.blocks A) (hn : bulkCd c ≤ 1048576) :
    Calls Tryd.prog 96 #[cdv c A cap, .int .i64 b] w (PRet (predsI c b) w) := by
  have hln : c.blocks.length ≤ 1048576 := by have := length_le_bulkR bulkBk c.blocks; unfold bulkCd at hn; omega
  have HX := Lib.hid (show ∀ i, (h : i < c.blocks.length) → c.blocks[i].next.length ≤ 1048576 from fun i h => by
    have := bulkR_mem (f := bulkBk) (List.getElem_mem h)
    unfold bulkCd at hn
    have h2 : bulkBk c.blocks[i] = bulkR bulkPh c.blocks[i].phis + bulkR bulkIk c.blocks[i].ins + c.blocks[i].next.length := rfl
    omega)
  clear hn
  unfold predsI predsL cdv
  obtain ⟨p, g, bs⟩ := c
  dsimp only at *
  have HR := Lib.hid hR
  clear hR
  obtain ⟨i0, hi, hz0, hz1, hz2⟩ := info_parts uintInfo
  have K0 := Lib.hid (BoxV.new w [.int .i64 p, .int .i64 g, .slice A bs.length cap] 44)
  have hb0 : Below w.heap.size w (w.alloc (.cells #[.int .i64 p, .int .i64 g, .slice A bs.length cap] 44)) := (Below.refl _ _).alloc (Nat.le_refl _) _
  have hl0 : w.heap.size < (w.alloc (.cells #[.int .i64 p, .int .i64 g, .slice A bs.length cap] 44)).heap.size := by rw [World.size_alloc]; omega
  by_cases h1 : ¬ 0 ≤ b
  · rw [if_neg (fun h => h1 h.1)]
    go_enter Tryd.func96, Tryd.ntmps96
    go_wp2_with fail
    go_ret
    exact ⟨⟨_, rfl, ownN_nil _ _⟩, hb0⟩
  replace h1 : 0 ≤ b := by omega
  by_cases h2 : ¬ b < bs.length
  · rw [if_neg (fun h => h2 h.2)]
    go_enter Tryd.func96, Tryd.ntmps96
    go_wp2_with fail
    go_ret
    exact ⟨⟨_, rfl, ownN_nil _ _⟩, hb0⟩
  replace h2 : b < bs.length := by omega
  rw [if_pos ⟨h1, h2⟩]
  go_enter Tryd.func96, Tryd.ntmps96
  go_wp2_with fail
  have e0 : w.alloc (.cells [.int .i64 p, .int .i64 g, .slice A bs.length cap].toArray 44) = w.alloc (.cells #[.int .i64 p, .int .i64 g, .slice A bs.length cap] 44) := rfl
  rw [e0] at K0
  clear e0
  generalize w.alloc (.cells #[.int .i64 p, .int .i64 g, .slice A bs.length cap] 44) = wa at *
  go_loopw [5, 20] (fun v i wr => ∃ (k : Nat) (l : List Int), k ≤ bs.length ∧ i = .int .i64 k ∧ l = predsTo bs b k ∧ OwnN wa.heap.size wr l v ∧ Below wa.heap.size wa wr) (fun _ i _ => bs.length - (intOf i).toNat)
  case atStart => exact ⟨0, [], Nat.zero_le _, rfl, rfl, ownN_nil _ _, Below.refl _ _⟩
  case round =>
    obtain ⟨k, l, hk, rfl, hl, hown, hb1⟩ := hrel
    have hll : l.length ≤ 1048576 := by have := predsTo_len bs b k; rw [← hl] at this; omega
    have HL := Lib.hid hl
    have HO := Lib.hid hown
    clear hl hown
    have hb := hb0.trans (hb1.mono (Nat.le_of_lt hl0))
    have hbs := hb.size
    have hbs1 := hb1.size
    by_cases hlt : k < bs.length
    · obtain ⟨bb, o, rfl, hB, ⟨A0, c0, d0, _⟩, ⟨A1, c1, d1, _⟩, d2, d3, A4, c4, d4, r4⟩ := (HR.out.on hb hbs).at_ hlt
      have hnx := HX.out k hlt
      have HY := Lib.hid (show hasB bs[k].next b = true → predsTo bs b (k + 1) = l ++ [(k : Int)] from fun h => by rw [predsTo_yes hlt ((hasB_iff _ _).1 h), HL.out])
      have HN := Lib.hid (show hasB bs[k].next b = false → l = predsTo bs b (k + 1) from fun h => by rw [predsTo_no hlt ((hasB_no _ _).1 h), HL.out])
      have CC := fun W (h : Below wr.heap.size wr W) => uContains_any bs[k].next hnx A4 c4 b W (r4.on h h.size)
      generalize hasB bs[k].next b = z at *
      clear r4 HX
      generalize bs[k] = x at *
      obtain ⟨x0, x1, x2, x3, x4⟩ := x
      dsimp only at *
      have hal := (Below.refl wr.heap.size wr).alloc (Nat.le_refl _) (.cells #[.slice A0 x0.length c0, .slice A1 x1.length c1, .int .i64 x2, .int .i64 x3, .slice A4 x4.length c4] 56)
      have CC1 := CC _ hal
      have hba := hb1.trans (hal.mono hbs1)
      have HOa := Lib.hid (HO.out.alloc (.cells #[.slice A0 x0.length c0, .slice A1 x1.length c1, .int .i64 x2, .int .i64 x3, .slice A4 x4.length c4] 56))
      clear CC HO
      cases z
      · replace CC1 := Lib.hid CC1
        have hle := HN.out rfl
        have HN2 := Lib.hid hle
        clear HN HY hle
        go_wp2_with (go_at_call 117; (with_reducible refine Calls.mono CC1.out ?_); rintro ee w2 ⟨rfl, hb2⟩)
        go_roundw
        case rel => exact ⟨k + 1, l, by omega, by go_num, HN2.out, ownN_below HOa.out hb2, hba.trans (hb2.mono hba.size)⟩
        case measure => simp only [intOf]; omega
      · replace CC1 := Lib.hid CC1
        have hle := HY.out rfl
        have HY2 := Lib.hid hle
        clear HN HY hle
        go_wp2_with fail
        (with_reducible refine Calls.mono CC1.out ?_)
        rintro ee w2 ⟨rfl, hb2⟩
        have HO2 := Lib.hid (ownN_below HOa.out hb2)
        have hb3 := hba.trans (hb2.mono hba.size)
        have hb4 := hb3.alloc hb3.size (.cells #[.int .i64 (k : Int)] 3)
        have hbz : wa.heap.size ≤ (w2.alloc (.cells #[.int .i64 (k : Int)] 3)).heap.size := hb4.size
        have HNW := Lib.hid (new_int w2 (k : Int) 3)
        have HTO := Lib.hid (int_one (k : Int))
        go_wp2_with (at_builtin; refine wpList_append_own _ rfl _ _ 48 rfl wa.heap.size 3 i0 (.int .i64 0) 1 8 Tryd.underlying48 hi hz0 hz1 hz2 rfl (by decide) _ l.length (iCs l) rfl (HO2.out.alloc _) ⟨w2.heap.size, 0, none⟩ 1 1 [.int .i64 (k : Int)] rfl rfl HNW.out HTO.out (by unfold maxLen; omega) (by omega) hbz ?_; intro v' w3 hown3 hgrow3 _; have hb5 := hb4.grown hgrow3 hbz (fun j e => ((HO2.out.alloc (.cells #[.int .i64 (k : Int)] 3)).lt j e).1); have HO3 := Lib.hid hown3; clear hown3 hgrow3)
        go_roundw
        case rel => exact ⟨k + 1, l ++ [(k : Int)], by omega, by go_num, HY2.out.symm, by unfold OwnN; rw [List.length_append, iCs_app]; exact HO3.out, hb5⟩
        case measure => simp only [intOf]; omega
    · obtain rfl : k = bs.length := by omega
      have HE := Lib.hid (show PRet (predsTo bs b bs.length) w _ wr from ⟨⟨_, rfl, by rw [← HL.out]; exact HO.out.base (Nat.le_of_lt hl0)⟩, hb⟩)
      go_wp2_with fail
      go_ret
      exact HE.out
end Go.Proofs.YtomhomnibikceaaDoor
