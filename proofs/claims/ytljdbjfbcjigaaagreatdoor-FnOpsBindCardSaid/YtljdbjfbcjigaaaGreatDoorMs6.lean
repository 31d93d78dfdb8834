/-
  Read expressions in memory: trees that keep clear of one block; lists that are written out.
-/
import Derived.Test.YtljdbjfbcjigaaaGreatDoorMs5
namespace Go.Proofs.YtljdbjfbcjigaaaGreatDoor
open Go.RowKit
set_option maxRecDepth 100000

theorem DrK.below {w w' : World} {B lo : Nat} {v : Value} {ks : List E} (h : DrK w lo v ks) (hb : Below B w w') (hB : w.heap.size ≤ B) : DrK w' lo v ks :=
  h.keep (fun b _ h2 => hb.block b (Nat.lt_of_lt_of_le h2 hB)) hb.size
/-- A copy lies in memory of its own. -/
def CpRet (e : E) (w : World) (ee : Ending) (w' : World) : Prop := ∃ (A : Option Addr) (c : Nat), ee = .returned (exV e A c) ∧ DrK w' w.heap.size (.slice A e.kids.length c) e.kids ∧ Below w.heap.size w w'
def CpE (e : E) : Prop := ∀ (A : Option Addr) (cap : Nat) (w : World), RdS w w.heap.size e.kids A → Calls Tryz.prog 57 #[exV e A cap] w (CpRet e w)
theorem copy_start (w : World) (v0 v1 v2 v3 z0 z1 z2 z3 : Value) (t t' : TypeId) :
    Res (((w.alloc (.cells #[v0, v1, v2, v3] t)).alloc (.cells #[z0, z1, z2, z3] t')).alloc (.cells #[] 28)) w.heap.size v0 v1 v2 v3 ∧
    Res (((w.alloc (.cells #[v0, v1, v2, v3] t)).alloc (.cells #[z0, z1, z2, z3] t')).alloc (.cells #[] 28)) (w.heap.size + 1) z0 z1 z2 z3 ∧
    DrK (((w.alloc (.cells #[v0, v1, v2, v3] t)).alloc (.cells #[z0, z1, z2, z3] t')).alloc (.cells #[] 28)) (w.heap.size + 2) (.slice (some ⟨w.heap.size + 1 + 1, 0, none⟩) 0 0) [] ∧
    Below w.heap.size w (((w.alloc (.cells #[v0, v1, v2, v3] t)).alloc (.cells #[z0, z1, z2, z3] t')).alloc (.cells #[] 28)) := by
  have s1 : (w.alloc (.cells #[v0, v1, v2, v3] t)).heap.size = w.heap.size + 1 := World.size_alloc _ _
  have s2 : ((w.alloc (.cells #[v0, v1, v2, v3] t)).alloc (.cells #[z0, z1, z2, z3] t')).heap.size = w.heap.size + 1 + 1 := by rw [World.size_alloc, s1]
  have b1 := (Below.refl (w.alloc (.cells #[v0, v1, v2, v3] t)).heap.size (w.alloc (.cells #[v0, v1, v2, v3] t))).alloc (Nat.le_refl _) (.cells #[z0, z1, z2, z3] t')
  have b2 := (Below.refl ((w.alloc (.cells #[v0, v1, v2, v3] t)).alloc (.cells #[z0, z1, z2, z3] t')).heap.size ((w.alloc (.cells #[v0, v1, v2, v3] t)).alloc (.cells #[z0, z1, z2, z3] t'))).alloc (Nat.le_refl _) (.cells #[] 28)
  have r0 := ((Res.new w v0 v1 v2 v3 t).below b1 (Res.new w v0 v1 v2 v3 t).lt)
  have r1 := Res.new (w.alloc (.cells #[v0, v1, v2, v3] t)) z0 z1 z2 z3 t'
  have k := DrK.lit (w := ((w.alloc (.cells #[v0, v1, v2, v3] t)).alloc (.cells #[z0, z1, z2, z3] t'))) (lo := w.heap.size + 2) [] (by rw [s2]; omega) (by simp) (by simp)
  rw [s2] at k
  have r2 := r1.below b2 r1.lt
  rw [s1] at r2
  exact ⟨r0.below b2 r0.lt, r2, k, (((Below.refl _ _).alloc (Nat.le_refl _) _).alloc (by rw [s1]; omega) _).alloc (by rw [s2]; omega) _⟩

set_option maxHeartbeats 4000000 in
theorem l2Copy_of (e : E) (hn : e.kids.length ≤ 1048576) (H : ∀ k ∈ e.kids, CpE k) : CpE e := by
  intro A cap w hR
  obtain ⟨op, n, s, ks⟩ := e
  unfold exV
  dsimp only [E.op, E.n, E.name, E.kids] at *
  have HK := fun i (h : i < ks.length) => H _ (List.getElem_mem h)
  clear H
  unfold CpE exV at HK
  replace HK := Lib.hid HK
  have HR := Lib.hid hR
  clear hR
  obtain ⟨i0, hi, hz0, hz1, hz2⟩ := info_parts exprInfo
  have CS := Lib.hid (copy_start w (.int .i64 op) (.int .i64 n) (.string s) (.slice A ks.length cap) (.int .i64 0) (.int .i64 0) (.string ⟨#[]⟩) (.slice none 0 0) 28 28)
  go_enter Tryz.func57, Tryz.ntmps57
  go_wp2_with fail
  go_loopw [3, 4] (fun v i wr => ∃ ls : List E, ls = ks.take ls.length ∧ ls.length ≤ ks.length ∧ i = .int .i64 ls.length ∧ Res wr w.heap.size (.int .i64 op) (.int .i64 n) (.string s) (.slice A ks.length cap) ∧ Res wr (w.heap.size + 1) (.int .i64 0) (.int .i64 0) (.string ⟨#[]⟩) (.slice none 0 0) ∧ DrK wr (w.heap.size + 2) v ls ∧ Below w.heap.size w wr) (fun _ i _ => ks.length - (intOf i).toNat)
  case atStart => exact ⟨[], rfl, Nat.zero_le _, rfl, CS.out.1, CS.out.2.1, CS.out.2.2.1, CS.out.2.2.2⟩
  case round =>
    clear CS
    obtain ⟨ls, hls, hk, rfl, hP, hZ, hD, hb⟩ := hrel
    have hlsH := Lib.hid hls
    clear hls
    have hPl := hP.lt
    have hZl := hZ.lt
    obtain ⟨Av, cv, rfl⟩ := hD.slice
    obtain ⟨p0, p1, p2, p3⟩ := hP.c
    by_cases hlt : ls.length < ks.length
    · obtain ⟨b, o, rfl, hB, ⟨c0, c1, c2⟩, A1, cap1, c3, hr⟩ := (HR.out.below hb).at_ hlt
      have CK := HK.out ls.length hlt A1 cap1 wr (hr.more hb.size)
      have HOWN := Lib.hid hD.owned
      have HP := Lib.hid hP
      have HZ := Lib.hid hZ
      have HD := Lib.hid hD
      clear hr hP hZ hD
      generalize hkd : ks[ls.length] = kid at CK c0 c1 c2 c3
      have HKD := Lib.hid hkd
      clear hkd
      replace CK := Lib.hid CK
      go_wp2_with fail
      (with_reducible refine Calls.mono CK.out ?_)
      rintro ee w2 ⟨A2, cc2, rfl, hk2, hb2⟩
      unfold exV
      have hal := (Below.refl w2.heap.size w2).alloc (Nat.le_refl _) (.cells #[.int .i64 kid.op, .int .i64 kid.n, .string kid.name, .slice A2 kid.kids.length cc2] 28)
      have P3 := Lib.hid ((HP.out.below hb2 hPl).below hal (Nat.lt_of_lt_of_le hPl hb2.size))
      have Z3 := Lib.hid ((HZ.out.below hb2 hZl).below hal (Nat.lt_of_lt_of_le hZl hb2.size))
      obtain ⟨xs, ho, hx⟩ := (HD.out.below hb2 (Nat.le_refl _)).below hal (Nat.le_refl _)
      have HOW := Lib.hid ho
      have HX := Lib.hid hx
      have HNW := Lib.hid (new_four w2 (.int .i64 kid.op) (.int .i64 kid.n) (.string kid.name) (.slice A2 kid.kids.length cc2) 28)
      have HTO := Lib.hid (kid_cells kid A2 cc2)
      have hbz : w.heap.size + 2 ≤ (w2.alloc (.cells #[.int .i64 kid.op, .int .i64 kid.n, .string kid.name, .slice A2 kid.kids.length cc2] 28)).heap.size := Nat.le_trans (Nat.le_trans (by omega) hb2.size) hal.size
      have HLB := Lib.hid (show (ls.length + 1 ≤ maxLen ∧ (ls.length + 1) * 56 ≤ 140737488355328) from ⟨by unfold maxLen; omega, by omega⟩)
      have HK2 := Lib.hid ((hk2.below hal (Nat.le_refl _)).apart (lo := w.heap.size + 2) (v := .slice Av ls.length cv) (by omega) (fun k e => (HOWN.out k e).2))
      have HB3 := Lib.hid ((hb.trans (hb2.mono hb.size)).trans (hal.mono (Nat.le_trans hb.size hb2.size)))
      clear ho hx hk2 hal hb2 c0 c1 c2 c3 p0 p1 p2 p3
      go_wp2_with (at_builtin; refine wpList_append_lies _ rfl _ _ 26 rfl (w.heap.size + 2) 28 i0 (.agg #[.int .i64 0, .int .i64 0, .string ⟨#[]⟩, .slice none 0 0]) 4 56 Tryz.underlying26 hi hz0 hz1 hz2 rfl (by decide) _ ls.length xs rfl HOW.out ⟨w2.heap.size, 0, none⟩ 1 1 (Kd.mk kid A2 cc2).cells rfl rfl HNW.out HTO.out (by decide) HLB.out.1 HLB.out.2 hbz _ rfl ?_; intro g8 cap8 w8 hown8 hgrow8 hat8 hlt8)
      go_roundw
      case rel =>
        have SN := DrK.snoc (w := (w2.alloc (.cells #[.int .i64 kid.op, .int .i64 kid.n, .string kid.name, .slice A2 kid.kids.length cc2] 28))) ⟨kid, A2, cc2⟩ HX.out HOW.out.1 rfl hown8 hgrow8 hat8 HK2.out
        have hne0 : some w.heap.size ≠ (Value.slice Av ls.length cv).ownBlock := fun e => by have := HOWN.out _ e.symm; omega
        have hne1 : some (w.heap.size + 1) ≠ (Value.slice Av ls.length cv).ownBlock := fun e => by have := HOWN.out _ e.symm; omega
        refine ⟨ls ++ [kid], ?_, by rw [List.length_append]; show ls.length + 1 ≤ _; omega, by rw [List.length_append]; go_num, P3.out.grow hgrow8 hne0, Z3.out.grow hgrow8 hne1, ?_, HB3.out.grown hgrow8 (by omega) (fun k e => by have := HOWN.out k e; omega)⟩
        · rw [List.length_append]
          show _ = ks.take (ls.length + 1)
          rw [List.take_succ_eq_append_getElem hlt, ← hlsH.out, HKD.out]
        · first | exact SN | (rw [List.length_append]; exact SN)
      case measure => simp only [intOf]; omega
    · have hle : ls.length = ks.length := by omega
      obtain rfl : ks = ls := by
        have h := hlsH.out
        rw [hle, List.take_length] at h
        exact h.symm
      obtain ⟨z0, z1, z2, z3⟩ := hZ.c
      have f3 := hP.f 3
      have g0 := hZ.f 0
      have g1 := hZ.f 1
      have g2 := hZ.f 2
      have g3 := hZ.f 3
      have HD := Lib.hid hD
      have HB := Lib.hid hb
      clear hP hZ hD hb hlsH hle HK HR
      go_wp2_with fail
      refine bodyPost_ret (v := .agg #[.int .i64 op, .int .i64 n, .string s, .slice Av ks.length cv]) (by simp [results, Tryz.results57, go_sem, z0, z1, z2, z3]) rfl ⟨Av, cv, rfl, ?_, ?_⟩
      · have q0 : w.heap.size < w.heap.size + 2 := by omega
        have q1 : w.heap.size + 1 < w.heap.size + 2 := by omega
        exact (((((HD.out.set q0 3 _).set q1 0 _).set q1 1 _).set q1 2 _).set q1 3 _).wide (by omega)
      · exact ((((HB.out.setCell (p := ⟨w.heap.size, 3, none⟩) (Nat.le_refl _) _).setCell (p := ⟨w.heap.size + 1, 0, none⟩) (Nat.le_succ _) _).setCell (p := ⟨w.heap.size + 1, 1, none⟩) (Nat.le_succ _) _).setCell (p := ⟨w.heap.size + 1, 2, none⟩) (Nat.le_succ _) _).setCell (p := ⟨w.heap.size + 1, 3, none⟩) (Nat.le_succ _) _
theorem l2Copy_any (e : E) (h : bulkE e ≤ 1048576) : CpE e := by
  refine E.ind (P := fun e => bulkE e ≤ 1048576 → CpE e) ?_ e h
  intro e ih h
  rw [bulkE_kids] at h
  have h1 := length_le_sizeL e.kids
  have h2 := sizeL_bulk e.kids
  exact l2Copy_of e (by omega) fun k hk => ih k hk (by have := bulkL_mem hk; omega)
end Go.Proofs.YtljdbjfbcjigaaaGreatDoor

namespace Go.Proofs.YtljdbjfbcjigaaaGreatDoor
open Go.RowKit
set_option maxRecDepth 100000

theorem bulkL_set : ∀ (ls : List E) (i : Nat) (k : E), bulkL (ls.set i k) ≤ bulkL ls + 1 + bulkE k
  | [], i, k => by show 0 ≤ _; omega
  | l :: ls, 0, k => by show 1 + bulkE k + bulkL ls ≤ 1 + bulkE l + bulkL ls + 1 + bulkE k; omega
  | l :: ls, i + 1, k => by
    have h := bulkL_set ls i k
    show 1 + bulkE l + bulkL (ls.set i k) ≤ 1 + bulkE l + bulkL ls + 1 + bulkE k
    omega
theorem heap_setCell_ne (w : World) (g o b : Nat) (v : Value) (h : b ≠ g) : (w.setCell ⟨g, o, none⟩ v).heap[b]? = w.heap[b]? := by
  show (w.heap.modify g _)[b]? = _
  rw [Array.getElem?_modify, if_neg (by omega)]
theorem DrK.turn {w : World} {lo g c i : Nat} {ls : List E} (h : DrK w lo (.slice (some ⟨g, 0, none⟩) ls.length c) ls) (hi : i < ls.length) (op z : Int) (s : ByteArray) :
    DrK ((((w.setCell ⟨g, i * 4, none⟩ (.int .i64 op)).setCell ⟨g, i * 4 + 1, none⟩ (.int .i64 z)).setCell ⟨g, i * 4 + 2, none⟩ (.string s)).setCell ⟨g, i * 4 + 3, none⟩ (.slice none 0 0)) lo (.slice (some ⟨g, 0, none⟩) ls.length c) (ls.set i (.mk op z s [])) := by
  obtain ⟨xs, ho, hx⟩ := h
  have hl := ho.1
  have hs0 := ho.stored (i * 4) (.int .i64 op)
  have hs1 := hs0.1.stored (i * 4 + 1) (.int .i64 z)
  have hs2 := hs1.1.stored (i * 4 + 2) (.string s)
  have hs3 := hs2.1.stored (i * 4 + 3) (.slice none 0 0)
  have hb : ∀ b, b ≠ g → ((((w.setCell ⟨g, i * 4, none⟩ (.int .i64 op)).setCell ⟨g, i * 4 + 1, none⟩ (.int .i64 z)).setCell ⟨g, i * 4 + 2, none⟩ (.string s)).setCell ⟨g, i * 4 + 3, none⟩ (.slice none 0 0)).heap[b]? = w.heap[b]? := fun b hb => by
    rw [heap_setCell_ne _ _ _ _ _ hb, heap_setCell_ne _ _ _ _ _ hb, heap_setCell_ne _ _ _ _ _ hb, heap_setCell_ne _ _ _ _ _ hb]
  have hz : ((((w.setCell ⟨g, i * 4, none⟩ (.int .i64 op)).setCell ⟨g, i * 4 + 1, none⟩ (.int .i64 z)).setCell ⟨g, i * 4 + 2, none⟩ (.string s)).setCell ⟨g, i * 4 + 3, none⟩ (.slice none 0 0)).heap.size = w.heap.size := by simp
  generalize ((((w.setCell ⟨g, i * 4, none⟩ (.int .i64 op)).setCell ⟨g, i * 4 + 1, none⟩ (.int .i64 z)).setCell ⟨g, i * 4 + 2, none⟩ (.string s)).setCell ⟨g, i * 4 + 3, none⟩ (.slice none 0 0)) = w' at *
  have keep : ∀ {ks : List E} {A : Option Addr}, PdS w (fun b => Between w lo w.heap.size b ∧ (Value.slice (some ⟨g, 0, none⟩) ls.length c).ownBlock ≠ some b) ks A → PdS w' (fun b => Between w' lo w'.heap.size b ∧ (Value.slice (some ⟨g, 0, none⟩) ls.length c).ownBlock ≠ some b) ks A := by
    intro ks A h
    have ne : ∀ b, (Value.slice (some ⟨g, 0, none⟩) ls.length c).ownBlock ≠ some b → b ≠ g := fun b h e => h (by rw [e]; rfl)
    exact h.keep (fun b o h' => World.cell?_of_block (hb b (ne b h'.2))) (fun b h' => ⟨⟨h'.1.1, by rw [hz]; exact h'.1.2.1, flat_of_eq h'.1.2.2 (hb b (ne b h'.2))⟩, h'.2⟩)
  refine ⟨_, by rw [List.length_set]; exact hs3.1, fun j hj => ?_⟩
  rw [List.length_set] at hj
  by_cases e : j = i
  · subst e
    rw [List.getElem_set_self]
    refine ⟨?_, ?_, ?_, none, 0, ?_, .inl (by rfl)⟩
    · rw [List.getElem?_set_ne (by omega), List.getElem?_set_ne (by omega), List.getElem?_set_ne (by omega), List.getElem?_set_self (by omega)]; rfl
    · rw [List.getElem?_set_ne (by omega), List.getElem?_set_ne (by omega), List.getElem?_set_self (by rw [List.length_set]; omega)]; rfl
    · rw [List.getElem?_set_ne (by omega), List.getElem?_set_self (by rw [List.length_set, List.length_set]; omega)]; rfl
    · rw [List.getElem?_set_self (by rw [List.length_set, List.length_set, List.length_set]; omega)]; rfl
  · obtain ⟨a, b, c', A', cc, d, e'⟩ := hx j hj
    rw [List.getElem_set_ne (by omega)]
    refine ⟨?_, ?_, ?_, A', cc, ?_, keep e'⟩
    all_goals
      rw [List.getElem?_set_ne (by omega), List.getElem?_set_ne (by omega), List.getElem?_set_ne (by omega), List.getElem?_set_ne (by omega)]
      assumption
end Go.Proofs.YtljdbjfbcjigaaaGreatDoor

namespace Go.Proofs.YtljdbjfbcjigaaaGreatDoor
open Go.RowKit
set_option maxRecDepth 100000

/-- A block that a call has made, but for one. -/
def BtX (lo X : Nat) (w : World) (b : Nat) : Prop := lo ≤ b ∧ b < w.heap.size ∧ b ≠ X ∧ Flat w b
theorem PdS.belowX {w w' : World} {lo X : Nat} {ks : List E} {A : Option Addr} (h : PdS w (BtX lo X w) ks A) (hb : Below w.heap.size w w') : PdS w' (BtX lo X w') ks A :=
  h.keep (fun b _ h => hb.cell (p := ⟨b, _, none⟩) h.2.1) (fun _ h => ⟨h.1, Nat.lt_of_lt_of_le h.2.1 hb.size, h.2.2.1, h.2.2.2.below hb h.2.1⟩)
theorem PdS.setX {w : World} {lo X : Nat} {ks : List E} {A : Option Addr} (h : PdS w (BtX lo X w) ks A) (o : Nat) (v : Value) : PdS (w.setCell ⟨X, o, none⟩ v) (BtX lo X (w.setCell ⟨X, o, none⟩ v)) ks A :=
  h.keep (fun b o' h => World.cell?_setCell_other _ _ _ _ (by intro e; injection e with e; exact h.2.2.1 (by omega))) (fun _ h => ⟨h.1, by simpa using h.2.1, h.2.2.1, h.2.2.2.set _ _⟩)
theorem PdS.toX {w : World} {lo hi lo' X : Nat} {ks : List E} {A : Option Addr} (h : PdS w (Between w lo hi) ks A) (hX : X < lo ∨ hi ≤ X) (h1 : lo' ≤ lo) (h2 : hi ≤ w.heap.size) : PdS w (BtX lo' X w) ks A :=
  h.keep (fun _ _ _ => rfl) (fun _ h => ⟨by have := h.1; omega, by have := h.2.1; omega, by have := h.1; have := h.2.1; omega, h.2.2⟩)
theorem PdS.fromX {w : World} {lo X : Nat} {ks : List E} {A : Option Addr} (h : PdS w (BtX lo X w) ks A) : PdS w (Between w lo w.heap.size) ks A :=
  h.keep (fun _ _ _ => rfl) (fun _ h => ⟨h.1, h.2.1, h.2.2.2⟩)
theorem PdS.offX {w : World} {lo X g : Nat} {ks : List E} {A : Option Addr} (h : PdS w (BtX lo X w) ks A) (hg : g < lo) (o : Nat) (v : Value) : PdS (w.setCell ⟨g, o, none⟩ v) (BtX lo X (w.setCell ⟨g, o, none⟩ v)) ks A :=
  h.keep (fun b o' h => World.cell?_setCell_other _ _ _ _ (by intro e; injection e with e; have := h.1; omega)) (fun _ h => ⟨h.1, by simpa using h.2.1, h.2.2.1, h.2.2.2.set _ _⟩)
/-- A list that is written out. -/
theorem pd_lit {w : World} {S S' : Nat → Prop} (l : List Kd) (hS : S' w.heap.size) (hk : ∀ k ∈ l, PdS w S k.e.kids k.A) (hlt : ∀ b, S b → b < w.heap.size) (hs : ∀ b, S b → S' b) :
    PdS (w.alloc (.cells (kdCells l).toArray 28)) S' (l.map (·.e)) (some ⟨w.heap.size, 0, none⟩) := by
  refine .inr ⟨_, 0, rfl, hS, PdC.mk fun j hj => ?_⟩
  have hj' : j < l.length := by simpa using hj
  have a0 := kdCells_at l j hj' 0 (by omega)
  have a1 := kdCells_at l j hj' 1 (by omega)
  have a2 := kdCells_at l j hj' 2 (by omega)
  have a3 := kdCells_at l j hj' 3 (by omega)
  have cell : ∀ i v, (kdCells l)[i]? = some v → (w.alloc (.cells (kdCells l).toArray 28)).cell? ⟨w.heap.size, 0 + i, none⟩ = some v := by
    intro i v hv
    exact lit_cell w (kdCells l) 28 (0, 0) i v hv
  rw [Nat.add_zero] at a0
  rw [List.getElem_map]
  refine ⟨⟨cell _ _ a0, cell _ _ a1, cell _ _ a2⟩, _, _, cell _ _ a3, ?_⟩
  exact (hk l[j] (List.getElem_mem hj')).keep (fun b o h => World.cell?_of_block (heap_alloc_old _ _ (hlt b h))) hs
/-- Four stores into a result. -/
theorem res_four {w : World} {b : Nat} {v0 v1 v2 v3 : Value} (h : Res w b v0 v1 v2 v3) (u0 u1 u2 u3 : Value) :
    Res ((((w.setCell ⟨b, 0, none⟩ u0).setCell ⟨b, 1, none⟩ u1).setCell ⟨b, 2, none⟩ u2).setCell ⟨b, 3, none⟩ u3) b u0 u1 u2 u3 := (((h.set0 u0).set1 u1).set2 u2).set3 u3
theorem below_four {w w' : World} {B b : Nat} (h : Below B w w') (hB : B ≤ b) (u0 u1 u2 u3 : Value) :
    Below B w ((((w'.setCell ⟨b, 0, none⟩ u0).setCell ⟨b, 1, none⟩ u1).setCell ⟨b, 2, none⟩ u2).setCell ⟨b, 3, none⟩ u3) :=
  (((h.setCell (p := ⟨b, 0, none⟩) hB _).setCell (p := ⟨b, 1, none⟩) hB _).setCell (p := ⟨b, 2, none⟩) hB _).setCell (p := ⟨b, 3, none⟩) hB _
theorem pd_fourX {w : World} {lo X : Nat} {ks : List E} {A : Option Addr} (h : PdS w (BtX lo X w) ks A) (u0 u1 u2 u3 : Value) :
    PdS ((((w.setCell ⟨X, 0, none⟩ u0).setCell ⟨X, 1, none⟩ u1).setCell ⟨X, 2, none⟩ u2).setCell ⟨X, 3, none⟩ u3) (BtX lo X ((((w.setCell ⟨X, 0, none⟩ u0).setCell ⟨X, 1, none⟩ u1).setCell ⟨X, 2, none⟩ u2).setCell ⟨X, 3, none⟩ u3)) ks A :=
  (((h.setX 0 u0).setX 1 u1).setX 2 u2).setX 3 u3
theorem PdS.four' {w : World} {lo hi : Nat} {ks : List E} {A : Option Addr} (h : PdS w (Between w lo hi) ks A) {g : Nat} (hg : g < lo) (u0 u1 u2 u3 : Value) :
    PdS ((((w.setCell ⟨g, 0, none⟩ u0).setCell ⟨g, 1, none⟩ u1).setCell ⟨g, 2, none⟩ u2).setCell ⟨g, 3, none⟩ u3) (Between ((((w.setCell ⟨g, 0, none⟩ u0).setCell ⟨g, 1, none⟩ u1).setCell ⟨g, 2, none⟩ u2).setCell ⟨g, 3, none⟩ u3) lo hi) ks A :=
  (((h.set' hg 0 u0).set' hg 1 u1).set' hg 2 u2).set' hg 3 u3
theorem res_four_off {w : World} {b b' : Nat} {v0 v1 v2 v3 : Value} (h : Res w b v0 v1 v2 v3) (hne : b' ≠ b) (u0 u1 u2 u3 : Value) :
    Res ((((w.setCell ⟨b', 0, none⟩ u0).setCell ⟨b', 1, none⟩ u1).setCell ⟨b', 2, none⟩ u2).setCell ⟨b', 3, none⟩ u3) b v0 v1 v2 v3 := (((h.off hne u0).off hne u1).off hne u2).off hne u3
end Go.Proofs.YtljdbjfbcjigaaaGreatDoor
