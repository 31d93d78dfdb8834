/-
  Read expressions whose lists of Kids lie in blocks that are all different: each list has colours for what lies below its Kids.
-/
import Derived.Test.YtkhcfhhejmkikaaGreatDoorMg12
import Derived.Test.YtkhcfhhejmkikaaGreatDoorMg14
namespace Go.Proofs.YtkhcfhhejmkikaaGreatDoor
open Go.RowKit
set_option maxRecDepth 100000

theorem DrK.below {w w' : World} {B lo : Nat} {v : Value} {ks : List E} (h : DrK w lo v ks) (hb : Below B w w') (hB : w.heap.size ≤ B) : DrK w' lo v ks :=
  h.keep (fun b _ h2 => hb.block b (Nat.lt_of_lt_of_le h2 hB)) hb.size
/-- A copy lies in memory of its own. -/
def CpRet (e : E) (w : World) (ee : Ending) (w' : World) : Prop := ∃ (A : Option Addr) (c : Nat), ee = .returned (exV e A c) ∧ DrK w' w.heap.size (.slice A e.kids.length c) e.kids ∧ Below w.heap.size w w'
def CpE (e : E) : Prop := ∀ (A : Option Addr) (cap : Nat) (w : World), RdS w w.heap.size e.kids A → Calls Tryz.prog 55 #[exV e A cap] w (CpRet e w)
theorem copy_start (w : World) (v0 v1 v2 v3 z0 z1 z2 z3 : Value) (t t' : TypeId) :
    Res (((w.alloc (.cells #[v0, v1, v2, v3] t)).alloc (.cells #[z0, z1, z2, z3] t')).alloc (.cells #[] 24)) w.heap.size v0 v1 v2 v3 ∧
    Res (((w.alloc (.cells #[v0, v1, v2, v3] t)).alloc (.cells #[z0, z1, z2, z3] t')).alloc (.cells #[] 24)) (w.heap.size + 1) z0 z1 z2 z3 ∧
    DrK (((w.alloc (.cells #[v0, v1, v2, v3] t)).alloc (.cells #[z0, z1, z2, z3] t')).alloc (.cells #[] 24)) (w.heap.size + 2) (.slice (some ⟨w.heap.size + 1 + 1, 0, none⟩) 0 0) [] ∧
    Below w.heap.size w (((w.alloc (.cells #[v0, v1, v2, v3] t)).alloc (.cells #[z0, z1, z2, z3] t')).alloc (.cells #[] 24)) := by
  have s1 : (w.alloc (.cells #[v0, v1, v2, v3] t)).heap.size = w.heap.size + 1 := World.size_alloc _ _
  have s2 : ((w.alloc (.cells #[v0, v1, v2, v3] t)).alloc (.cells #[z0, z1, z2, z3] t')).heap.size = w.heap.size + 1 + 1 := by rw [World.size_alloc, s1]
  have b1 := (Below.refl (w.alloc (.cells #[v0, v1, v2, v3] t)).heap.size (w.alloc (.cells #[v0, v1, v2, v3] t))).alloc (Nat.le_refl _) (.cells #[z0, z1, z2, z3] t')
  have b2 := (Below.refl ((w.alloc (.cells #[v0, v1, v2, v3] t)).alloc (.cells #[z0, z1, z2, z3] t')).heap.size ((w.alloc (.cells #[v0, v1, v2, v3] t)).alloc (.cells #[z0, z1, z2, z3] t'))).alloc (Nat.le_refl _) (.cells #[] 24)
  have r0 := ((Res.new w v0 v1 v2 v3 t).below b1 (Res.new w v0 v1 v2 v3 t).lt)
  have r1 := Res.new (w.alloc (.cells #[v0, v1, v2, v3] t)) z0 z1 z2 z3 t'
  have k := DrK.lit (w := ((w.alloc (.cells #[v0, v1, v2, v3] t)).alloc (.cells #[z0, z1, z2, z3] t'))) (lo := w.heap.size + 2) [] (by rw [s2]; omega) (by simp) (by simp)
  rw [s2] at k
  have r2 := r1.below b2 r1.lt
  rw [s1] at r2
  exact ⟨r0.below b2 r0.lt, r2, k, (((Below.refl _ _).alloc (Nat.le_refl _) _).alloc (by rw [s1]; omega) _).alloc (by rw [s2]; omega) _⟩

set_option maxHeartbeats 4000000 in
theorem l2Copy_of (e : E) (hn : e.kids.length ≤ 1048576) (H : ∀ k ∈ e.kids, CpE k) : CpE e := by
  intro A cap w hR
  obtain ⟨op, n, s, ks⟩ := e
  unfold exV
  dsimp only [E.op, E.n, E.name, E.kids] at *
  have HK := fun i (h : i < ks.length) => H _ (List.getElem_mem h)
  clear H
  unfold CpE exV at HK
  replace HK := Lib.hid HK
  have HR := Lib.hid hR
  clear hR
  obtain ⟨i0, hi, hz0, hz1, hz2⟩ := info_parts exprInfo
  have CS := Lib.hid (copy_start w (.int .i64 op) (.int .i64 n) (.string s) (.slice A ks.length cap) (.int .i64 0) (.int .i64 0) (.string ⟨#[]⟩) (.slice none 0 0) 24 24)
  go_enter Tryz.func55, Tryz.ntmps55
  go_wp2_with fail
  go_loopw [3, 4] (fun v i wr => ∃ ls : List E, ls = ks.take ls.length ∧ ls.length ≤ ks.length ∧ i = .int .i64 ls.length ∧ Res wr w.heap.size (.int .i64 op) (.int .i64 n) (.string s) (.slice A ks.length cap) ∧ Res wr (w.heap.size + 1) (.int .i64 0) (.int .i64 0) (.string ⟨#[]⟩) (.slice none 0 0) ∧ DrK wr (w.heap.size + 2) v ls ∧ Below w.heap.size w wr) (fun _ i _ => ks.length - (intOf i).toNat)
  case atStart => exact ⟨[], rfl, Nat.zero_le _, rfl, CS.out.1, CS.out.2.1, CS.out.2.2.1, CS.out.2.2.2⟩
  case round =>
    clear CS
    obtain ⟨ls, hls, hk, rfl, hP, hZ, hD, hb⟩ := hrel
    have hlsH := Lib.hid hls
    clear hls
    have hPl := hP.lt
    have hZl := hZ.lt
    obtain ⟨Av, cv, rfl⟩ := hD.slice
    obtain ⟨p0, p1, p2, p3⟩ := hP.c
    by_cases hlt : ls.length < ks.length
    · obtain ⟨b, o, rfl, hB, ⟨c0, c1, c2⟩, A1, cap1, c3, hr⟩ := (HR.out.below hb).at_ hlt
      have CK := HK.out ls.length hlt A1 cap1 wr (hr.more hb.size)
      have HOWN := Lib.hid hD.owned
      have HP := Lib.hid hP
      have HZ := Lib.hid hZ
      have HD := Lib.hid hD
      clear hr hP hZ hD
      generalize hkd : ks[ls.length] = kid at CK c0 c1 c2 c3
      have HKD := Lib.hid hkd
      clear hkd
      replace CK := Lib.hid CK
      go_wp2_with fail
      (with_reducible refine Calls.mono CK.out ?_)
      rintro ee w2 ⟨A2, cc2, rfl, hk2, hb2⟩
      unfold exV
      have hal := (Below.refl w2.heap.size w2).alloc (Nat.le_refl _) (.cells #[.int .i64 kid.op, .int .i64 kid.n, .string kid.name, .slice A2 kid.kids.length cc2] 24)
      have P3 := Lib.hid ((HP.out.below hb2 hPl).below hal (Nat.lt_of_lt_of_le hPl hb2.size))
      have Z3 := Lib.hid ((HZ.out.below hb2 hZl).below hal (Nat.lt_of_lt_of_le hZl hb2.size))
      obtain ⟨xs, ho, hx⟩ := (HD.out.below hb2 (Nat.le_refl _)).below hal (Nat.le_refl _)
      have HOW := Lib.hid ho
      have HX := Lib.hid hx
      have HNW := Lib.hid (new_four w2 (.int .i64 kid.op) (.int .i64 kid.n) (.string kid.name) (.slice A2 kid.kids.length cc2) 24)
      have HTO := Lib.hid (kid_cells kid A2 cc2)
      have hbz : w.heap.size + 2 ≤ (w2.alloc (.cells #[.int .i64 kid.op, .int .i64 kid.n, .string kid.name, .slice A2 kid.kids.length cc2] 24)).heap.size := Nat.le_trans (Nat.le_trans (by omega) hb2.size) hal.size
      have HLB := Lib.hid (show (ls.length + 1 ≤ maxLen ∧ (ls.length + 1) * 56 ≤ 140737488355328) from ⟨by unfold maxLen; omega, by omega⟩)
      have HK2 := Lib.hid ((hk2.below hal (Nat.le_refl _)).apart (lo := w.heap.size + 2) (v := .slice Av ls.length cv) (by omega) (fun k e => (HOWN.out k e).2))
      have HB3 := Lib.hid ((hb.trans (hb2.mono hb.size)).trans (hal.mono (Nat.le_trans hb.size hb2.size)))
      clear ho hx hk2 hal hb2 c0 c1 c2 c3 p0 p1 p2 p3
      go_wp2_with (at_builtin; refine wpList_append_lies _ rfl _ _ 22 rfl (w.heap.size + 2) 24 i0 (.agg #[.int .i64 0, .int .i64 0, .string ⟨#[]⟩, .slice none 0 0]) 4 56 Tryz.underlying22 hi hz0 hz1 hz2 rfl (by decide) _ ls.length xs rfl HOW.out ⟨w2.heap.size, 0, none⟩ 1 1 (Kd.mk kid A2 cc2).cells rfl rfl HNW.out HTO.out (by decide) HLB.out.1 HLB.out.2 hbz _ rfl ?_; intro g8 cap8 w8 hown8 hgrow8 hat8 hlt8)
      go_roundw
      case rel =>
        have SN := DrK.snoc (w := (w2.alloc (.cells #[.int .i64 kid.op, .int .i64 kid.n, .string kid.name, .slice A2 kid.kids.length cc2] 24))) ⟨kid, A2, cc2⟩ HX.out HOW.out.1 rfl hown8 hgrow8 hat8 HK2.out
        have hne0 : some w.heap.size ≠ (Value.slice Av ls.length cv).ownBlock := fun e => by have := HOWN.out _ e.symm; omega
        have hne1 : some (w.heap.size + 1) ≠ (Value.slice Av ls.length cv).ownBlock := fun e => by have := HOWN.out _ e.symm; omega
        refine ⟨ls ++ [kid], ?_, by rw [List.length_append]; show ls.length + 1 ≤ _; omega, by rw [List.length_append]; go_num, P3.out.grow hgrow8 hne0, Z3.out.grow hgrow8 hne1, ?_, HB3.out.grown hgrow8 (by omega) (fun k e => by have := HOWN.out k e; omega)⟩
        · rw [List.length_append]
          show _ = ks.take (ls.length + 1)
          rw [List.take_succ_eq_append_getElem hlt, ← hlsH.out, HKD.out]
        · first | exact SN | (rw [List.length_append]; exact SN)
      case measure => simp only [intOf]; omega
    · have hle : ls.length = ks.length := by omega
      obtain rfl : ks = ls := by
        have h := hlsH.out
        rw [hle, List.take_length] at h
        exact h.symm
      obtain ⟨z0, z1, z2, z3⟩ := hZ.c
      have f3 := hP.f 3
      have g0 := hZ.f 0
      have g1 := hZ.f 1
      have g2 := hZ.f 2
      have g3 := hZ.f 3
      have HD := Lib.hid hD
      have HB := Lib.hid hb
      clear hP hZ hD hb hlsH hle HK HR
      go_wp2_with fail
      refine bodyPost_ret (v := .agg #[.int .i64 op, .int .i64 n, .string s, .slice Av ks.length cv]) (by simp [results, Tryz.results55, go_sem, z0, z1, z2, z3]) rfl ⟨Av, cv, rfl, ?_, ?_⟩
      · have q0 : w.heap.size < w.heap.size + 2 := by omega
        have q1 : w.heap.size + 1 < w.heap.size + 2 := by omega
        exact (((((HD.out.set q0 3 _).set q1 0 _).set q1 1 _).set q1 2 _).set q1 3 _).wide (by omega)
      · exact ((((HB.out.setCell (p := ⟨w.heap.size, 3, none⟩) (Nat.le_refl _) _).setCell (p := ⟨w.heap.size + 1, 0, none⟩) (Nat.le_succ _) _).setCell (p := ⟨w.heap.size + 1, 1, none⟩) (Nat.le_succ _) _).setCell (p := ⟨w.heap.size + 1, 2, none⟩) (Nat.le_succ _) _).setCell (p := ⟨w.heap.size + 1, 3, none⟩) (Nat.le_succ _) _
theorem l2Copy_any (e : E) (h : bulkE e ≤ 1048576) : CpE e := by
  refine E.ind (P := fun e => bulkE e ≤ 1048576 → CpE e) ?_ e h
  intro e ih h
  rw [bulkE_kids] at h
  have h1 := length_le_sizeL e.kids
  have h2 := sizeL_bulk e.kids
  exact l2Copy_of e (by omega) fun k hk => ih k hk (by have := bulkL_mem hk; omega)
end Go.Proofs.YtkhcfhhejmkikaaGreatDoor

namespace Go.Proofs.YtkhcfhhejmkikaaGreatDoor
open Go.RowKit
set_option maxRecDepth 100000

/-- A block that a call has made, but for one. -/
def BtX (lo X : Nat) (w : World) (b : Nat) : Prop := lo ≤ b ∧ b < w.heap.size ∧ b ≠ X ∧ Flat w b
theorem PdS.belowX {w w' : World} {lo X : Nat} {ks : List E} {A : Option Addr} (h : PdS w (BtX lo X w) ks A) (hb : Below w.heap.size w w') : PdS w' (BtX lo X w') ks A :=
  h.keep (fun b _ h => hb.cell (p := ⟨b, _, none⟩) h.2.1) (fun _ h => ⟨h.1, Nat.lt_of_lt_of_le h.2.1 hb.size, h.2.2.1, h.2.2.2.below hb h.2.1⟩)
theorem PdS.setX {w : World} {lo X : Nat} {ks : List E} {A : Option Addr} (h : PdS w (BtX lo X w) ks A) (o : Nat) (v : Value) : PdS (w.setCell ⟨X, o, none⟩ v) (BtX lo X (w.setCell ⟨X, o, none⟩ v)) ks A :=
  h.keep (fun b o' h => World.cell?_setCell_other _ _ _ _ (by intro e; injection e with e; exact h.2.2.1 (by omega))) (fun _ h => ⟨h.1, by simpa using h.2.1, h.2.2.1, h.2.2.2.set _ _⟩)
theorem PdS.toX {w : World} {lo hi lo' X : Nat} {ks : List E} {A : Option Addr} (h : PdS w (Between w lo hi) ks A) (hX : X < lo ∨ hi ≤ X) (h1 : lo' ≤ lo) (h2 : hi ≤ w.heap.size) : PdS w (BtX lo' X w) ks A :=
  h.keep (fun _ _ _ => rfl) (fun _ h => ⟨by have := h.1; omega, by have := h.2.1; omega, by have := h.1; have := h.2.1; omega, h.2.2⟩)
theorem PdS.fromX {w : World} {lo X : Nat} {ks : List E} {A : Option Addr} (h : PdS w (BtX lo X w) ks A) : PdS w (Between w lo w.heap.size) ks A :=
  h.keep (fun _ _ _ => rfl) (fun _ h => ⟨h.1, h.2.1, h.2.2.2⟩)
theorem PdS.offX {w : World} {lo X g : Nat} {ks : List E} {A : Option Addr} (h : PdS w (BtX lo X w) ks A) (hg : g < lo) (o : Nat) (v : Value) : PdS (w.setCell ⟨g, o, none⟩ v) (BtX lo X (w.setCell ⟨g, o, none⟩ v)) ks A :=
  h.keep (fun b o' h => World.cell?_setCell_other _ _ _ _ (by intro e; injection e with e; have := h.1; omega)) (fun _ h => ⟨h.1, by simpa using h.2.1, h.2.2.1, h.2.2.2.set _ _⟩)
/-- A list that is written out. -/
theorem pd_lit {w : World} {S S' : Nat → Prop} (l : List Kd) (hS : S' w.heap.size) (hk : ∀ k ∈ l, PdS w S k.e.kids k.A) (hlt : ∀ b, S b → b < w.heap.size) (hs : ∀ b, S b → S' b) :
    PdS (w.alloc (.cells (kdCells l).toArray 24)) S' (l.map (·.e)) (some ⟨w.heap.size, 0, none⟩) := by
  refine .inr ⟨_, 0, rfl, hS, PdC.mk fun j hj => ?_⟩
  have hj' : j < l.length := by simpa using hj
  have a0 := kdCells_at l j hj' 0 (by omega)
  have a1 := kdCells_at l j hj' 1 (by omega)
  have a2 := kdCells_at l j hj' 2 (by omega)
  have a3 := kdCells_at l j hj' 3 (by omega)
  have cell : ∀ i v, (kdCells l)[i]? = some v → (w.alloc (.cells (kdCells l).toArray 24)).cell? ⟨w.heap.size, 0 + i, none⟩ = some v := by
    intro i v hv
    exact lit_cell w (kdCells l) 24 (0, 0) i v hv
  rw [Nat.add_zero] at a0
  rw [List.getElem_map]
  refine ⟨⟨cell _ _ a0, cell _ _ a1, cell _ _ a2⟩, _, _, cell _ _ a3, ?_⟩
  exact (hk l[j] (List.getElem_mem hj')).keep (fun b o h => World.cell?_of_block (heap_alloc_old _ _ (hlt b h))) hs
/-- Four stores into a result. -/
theorem res_four {w : World} {b : Nat} {v0 v1 v2 v3 : Value} (h : Res w b v0 v1 v2 v3) (u0 u1 u2 u3 : Value) :
    Res ((((w.setCell ⟨b, 0, none⟩ u0).setCell ⟨b, 1, none⟩ u1).setCell ⟨b, 2, none⟩ u2).setCell ⟨b, 3, none⟩ u3) b u0 u1 u2 u3 := (((h.set0 u0).set1 u1).set2 u2).set3 u3
theorem below_four {w w' : World} {B b : Nat} (h : Below B w w') (hB : B ≤ b) (u0 u1 u2 u3 : Value) :
    Below B w ((((w'.setCell ⟨b, 0, none⟩ u0).setCell ⟨b, 1, none⟩ u1).setCell ⟨b, 2, none⟩ u2).setCell ⟨b, 3, none⟩ u3) :=
  (((h.setCell (p := ⟨b, 0, none⟩) hB _).setCell (p := ⟨b, 1, none⟩) hB _).setCell (p := ⟨b, 2, none⟩) hB _).setCell (p := ⟨b, 3, none⟩) hB _
theorem pd_fourX {w : World} {lo X : Nat} {ks : List E} {A : Option Addr} (h : PdS w (BtX lo X w) ks A) (u0 u1 u2 u3 : Value) :
    PdS ((((w.setCell ⟨X, 0, none⟩ u0).setCell ⟨X, 1, none⟩ u1).setCell ⟨X, 2, none⟩ u2).setCell ⟨X, 3, none⟩ u3) (BtX lo X ((((w.setCell ⟨X, 0, none⟩ u0).setCell ⟨X, 1, none⟩ u1).setCell ⟨X, 2, none⟩ u2).setCell ⟨X, 3, none⟩ u3)) ks A :=
  (((h.setX 0 u0).setX 1 u1).setX 2 u2).setX 3 u3
theorem PdS.four' {w : World} {lo hi : Nat} {ks : List E} {A : Option Addr} (h : PdS w (Between w lo hi) ks A) {g : Nat} (hg : g < lo) (u0 u1 u2 u3 : Value) :
    PdS ((((w.setCell ⟨g, 0, none⟩ u0).setCell ⟨g, 1, none⟩ u1).setCell ⟨g, 2, none⟩ u2).setCell ⟨g, 3, none⟩ u3) (Between ((((w.setCell ⟨g, 0, none⟩ u0).setCell ⟨g, 1, none⟩ u1).setCell ⟨g, 2, none⟩ u2).setCell ⟨g, 3, none⟩ u3) lo hi) ks A :=
  (((h.set' hg 0 u0).set' hg 1 u1).set' hg 2 u2).set' hg 3 u3
theorem res_four_off {w : World} {b b' : Nat} {v0 v1 v2 v3 : Value} (h : Res w b v0 v1 v2 v3) (hne : b' ≠ b) (u0 u1 u2 u3 : Value) :
    Res ((((w.setCell ⟨b', 0, none⟩ u0).setCell ⟨b', 1, none⟩ u1).setCell ⟨b', 2, none⟩ u2).setCell ⟨b', 3, none⟩ u3) b v0 v1 v2 v3 := (((h.off hne u0).off hne u1).off hne u2).off hne u3
end Go.Proofs.YtkhcfhhejmkikaaGreatDoor

namespace Go.Proofs.YtkhcfhhejmkikaaGreatDoor
open Go.RowKit
set_option maxRecDepth 100000

/-- Cells that read as Kids; what lies below the j-th one has the colour i + j. -/
def PdDC (w : World) : List E → (Nat → Prop) → (Nat → Nat) → Nat → Nat → Nat → Prop
  | [], _, _, _, _, _ => True
  | .mk op n s ks' :: ks, S, f, i, b, o =>
    (w.cell? ⟨b, o, none⟩ = some (.int .i64 op) ∧ w.cell? ⟨b, o + 1, none⟩ = some (.int .i64 n) ∧ w.cell? ⟨b, o + 2, none⟩ = some (.string s)) ∧
    (∃ A cap, w.cell? ⟨b, o + 3, none⟩ = some (.slice A ks'.length cap) ∧ (ks' = [] ∨ ∃ b' o', A = some ⟨b', o', none⟩ ∧ (S b' ∧ f b' = i) ∧ ∃ f', PdDC w ks' (fun c => (S c ∧ f c = i) ∧ c ≠ b') f' 0 b' o')) ∧ PdDC w ks S f (i + 1) b (o + 4)
def PdD (w : World) (S : Nat → Prop) (ks : List E) (A : Option Addr) : Prop := ks = [] ∨ ∃ b o, A = some ⟨b, o, none⟩ ∧ S b ∧ ∃ f, PdDC w ks (fun c => S c ∧ c ≠ b) f 0 b o
def PdDAt (w : World) (S : Nat → Prop) (e : E) (b o : Nat) : Prop :=
  (w.cell? ⟨b, o, none⟩ = some (.int .i64 e.op) ∧ w.cell? ⟨b, o + 1, none⟩ = some (.int .i64 e.n) ∧ w.cell? ⟨b, o + 2, none⟩ = some (.string e.name)) ∧
    ∃ A cap, w.cell? ⟨b, o + 3, none⟩ = some (.slice A e.kids.length cap) ∧ PdD w S e.kids A
theorem PdDC_cons (w : World) (S : Nat → Prop) (f : Nat → Nat) (i : Nat) (e : E) (ks : List E) (b o : Nat) : PdDC w (e :: ks) S f i b o ↔ PdDAt w (fun c => S c ∧ f c = i) e b o ∧ PdDC w ks S f (i + 1) b (o + 4) := by
  obtain ⟨op, n, s, ks'⟩ := e
  unfold PdDAt PdD
  rw [PdDC]
  simp only [E.op, E.n, E.name, E.kids, and_assoc]
theorem PdDC.get {w : World} {S : Nat → Prop} {f : Nat → Nat} : ∀ {ks : List E} {i b o : Nat}, PdDC w ks S f i b o → ∀ {j : Nat} (h : j < ks.length), PdDAt w (fun c => S c ∧ f c = i + j) ks[j] b (o + j * 4)
  | [], _, _, _, _, j, h => absurd h (by simp)
  | e :: ks, i, b, o, hr, 0, _ => by
    rw [PdDC_cons] at hr
    have e1 : o + 0 * 4 = o := by omega
    have e2 : i + 0 = i := by omega
    rw [e1, e2]; exact hr.1
  | e :: ks, i, b, o, hr, j + 1, h => by
    rw [PdDC_cons] at hr
    have := PdDC.get hr.2 (j := j) (by simpa using h)
    have e1 : o + 4 + j * 4 = o + (j + 1) * 4 := by omega
    have e2 : i + 1 + j = i + (j + 1) := by omega
    rw [e1, e2] at this
    exact this
theorem PdDC.mk {w : World} {S : Nat → Prop} {f : Nat → Nat} : ∀ {ks : List E} {i b o : Nat}, (∀ j, (h : j < ks.length) → PdDAt w (fun c => S c ∧ f c = i + j) ks[j] b (o + j * 4)) → PdDC w ks S f i b o
  | [], _, _, _, _ => by rw [PdDC]; trivial
  | e :: ks, i, b, o, h => by
    rw [PdDC_cons]
    refine ⟨?_, PdDC.mk fun j hj => ?_⟩
    · have := h 0 (by simp)
      have e1 : o + 0 * 4 = o := by omega
      have e2 : i + 0 = i := by omega
      rw [e1, e2] at this; exact this
    have := h (j + 1) (by simpa using hj)
    have e1 : o + (j + 1) * 4 = o + 4 + j * 4 := by omega
    have e2 : i + (j + 1) = i + 1 + j := by omega
    rw [e1, e2] at this
    exact this
theorem pdd_keep {w w' : World} : ∀ (N : Nat) (ks : List E) (A : Option Addr) (S S' : Nat → Prop), sizeL ks ≤ N → (∀ b o, S b → w'.cell? ⟨b, o, none⟩ = w.cell? ⟨b, o, none⟩) → (∀ b, S b → S' b) → PdD w S ks A → PdD w' S' ks A := by
  intro N
  induction N with
  | zero =>
    intro ks A S S' hN hc hB h
    cases ks with
    | nil => exact .inl rfl
    | cons k ks => have := sizeE_pos k; have : sizeL (k :: ks) = sizeE k + sizeL ks := rfl; omega
  | succ N ih =>
    intro ks A S S' hN hc hB h
    rcases h with h | ⟨b, o, e, hb, f, hr⟩
    · exact .inl h
    · refine .inr ⟨b, o, e, hB _ hb, f, PdDC.mk fun i hi => ?_⟩
      obtain ⟨⟨c0, c1, c2⟩, A', cap, c3, hr'⟩ := hr.get hi
      refine ⟨⟨(hc _ _ hb).trans c0, (hc _ _ hb).trans c1, (hc _ _ hb).trans c2⟩, A', cap, (hc _ _ hb).trans c3, ih _ _ _ _ ?_ (fun c o hh => hc c o hh.1.1) (fun c hh => ⟨⟨hB _ hh.1.1, hh.1.2⟩, hh.2⟩) hr'⟩
      have := sizeL_get hi
      rw [sizeE_kids] at this
      omega
theorem PdD.keep {w w' : World} {S S' : Nat → Prop} {ks : List E} {A : Option Addr} (h : PdD w S ks A) (hc : ∀ b o, S b → w'.cell? ⟨b, o, none⟩ = w.cell? ⟨b, o, none⟩) (hB : ∀ b, S b → S' b) : PdD w' S' ks A :=
  pdd_keep _ _ _ _ _ (Nat.le_refl _) hc hB h
theorem pdd_pd {w : World} : ∀ (N : Nat) (ks : List E) (A : Option Addr) (S S' : Nat → Prop), sizeL ks ≤ N → (∀ b, S b → S' b) → PdD w S ks A → PdS w S' ks A := by
  intro N
  induction N with
  | zero =>
    intro ks A S S' hN hB h
    cases ks with
    | nil => exact .inl rfl
    | cons k ks => have := sizeE_pos k; have : sizeL (k :: ks) = sizeE k + sizeL ks := rfl; omega
  | succ N ih =>
    intro ks A S S' hN hB h
    rcases h with h | ⟨b, o, e, hb, f, hr⟩
    · exact .inl h
    · refine .inr ⟨b, o, e, hB _ hb, PdC.mk fun i hi => ?_⟩
      obtain ⟨c, A', cap, c3, hr'⟩ := hr.get hi
      refine ⟨c, A', cap, c3, ih _ _ _ _ ?_ (fun c hh => hB _ hh.1.1) hr'⟩
      have := sizeL_get hi
      rw [sizeE_kids] at this
      omega
theorem PdD.pd {w : World} {S : Nat → Prop} {ks : List E} {A : Option Addr} (h : PdD w S ks A) : PdS w S ks A := pdd_pd _ _ _ _ _ (Nat.le_refl _) (fun _ h => h) h
theorem PdD.rd {w : World} {S : Nat → Prop} {B : Nat} {ks : List E} {A : Option Addr} (h : PdD w S ks A) (hB : ∀ b, S b → b < B) : RdS w B ks A := h.pd.rd hB
theorem PdD.later {w w' : World} {lo hi : Nat} {ks : List E} {A : Option Addr} (h : PdD w (Between w lo hi) ks A) (hb : Below hi w w') {lo' hi' : Nat} (h1 : lo' ≤ lo) (h2 : hi ≤ hi') : PdD w' (Between w' lo' hi') ks A :=
  h.keep (fun b _ h => hb.cell (p := ⟨b, _, none⟩) h.2.1) (fun _ h => ⟨Nat.le_trans h1 h.1, Nat.lt_of_lt_of_le h.2.1 h2, h.2.2.below hb h.2.1⟩)
theorem PdD.set' {w : World} {lo hi : Nat} {ks : List E} {A : Option Addr} (h : PdD w (Between w lo hi) ks A) {g : Nat} (hg : g < lo) (o : Nat) (v : Value) : PdD (w.setCell ⟨g, o, none⟩ v) (Between (w.setCell ⟨g, o, none⟩ v) lo hi) ks A :=
  h.keep (fun b o' h => World.cell?_setCell_other _ _ _ _ (by intro e; injection e with e; have := h.1; omega)) (fun _ h => ⟨h.1, h.2.1, h.2.2.set _ _⟩)
theorem PdD.wide {w : World} {lo hi lo' hi' : Nat} {ks : List E} {A : Option Addr} (h : PdD w (Between w lo hi) ks A) (h1 : lo' ≤ lo) (h2 : hi ≤ hi') : PdD w (Between w lo' hi') ks A :=
  h.keep (fun _ _ _ => rfl) (fun _ h => ⟨Nat.le_trans h1 h.1, Nat.lt_of_lt_of_le h.2.1 h2, h.2.2⟩)
theorem PdD.four' {w : World} {lo hi : Nat} {ks : List E} {A : Option Addr} (h : PdD w (Between w lo hi) ks A) {g : Nat} (hg : g < lo) (u0 u1 u2 u3 : Value) :
    PdD ((((w.setCell ⟨g, 0, none⟩ u0).setCell ⟨g, 1, none⟩ u1).setCell ⟨g, 2, none⟩ u2).setCell ⟨g, 3, none⟩ u3) (Between ((((w.setCell ⟨g, 0, none⟩ u0).setCell ⟨g, 1, none⟩ u1).setCell ⟨g, 2, none⟩ u2).setCell ⟨g, 3, none⟩ u3) lo hi) ks A :=
  (((h.set' hg 0 u0).set' hg 1 u1).set' hg 2 u2).set' hg 3 u3
theorem PdD.toX {w : World} {lo hi lo' X : Nat} {ks : List E} {A : Option Addr} (h : PdD w (Between w lo hi) ks A) (hX : X < lo ∨ hi ≤ X) (h1 : lo' ≤ lo) (h2 : hi ≤ w.heap.size) : PdD w (BtX lo' X w) ks A :=
  h.keep (fun _ _ _ => rfl) (fun _ h => ⟨by have := h.1; omega, by have := h.2.1; omega, by have := h.1; have := h.2.1; omega, h.2.2⟩)
theorem PdD.fromX {w : World} {lo X : Nat} {ks : List E} {A : Option Addr} (h : PdD w (BtX lo X w) ks A) : PdD w (Between w lo w.heap.size) ks A :=
  h.keep (fun _ _ _ => rfl) (fun _ h => ⟨h.1, h.2.1, h.2.2.2⟩)
/-- Trees that keep clear of one block, and lie in a range. -/
def BtQ (lo X l h : Nat) (w : World) (b : Nat) : Prop := BtX lo X w b ∧ l ≤ b ∧ b < h
theorem PdD.toQ {w : World} {lo hi lo' X : Nat} {ks : List E} {A : Option Addr} (h : PdD w (Between w lo hi) ks A) (hX : X < lo ∨ hi ≤ X) (h1 : lo' ≤ lo) (h2 : hi ≤ w.heap.size) : PdD w (BtQ lo' X lo hi w) ks A :=
  h.keep (fun _ _ _ => rfl) (fun _ h => ⟨⟨by have := h.1; omega, by have := h.2.1; omega, by have := h.1; have := h.2.1; omega, h.2.2⟩, h.1, h.2.1⟩)
theorem PdD.ofQ {w : World} {lo X l h : Nat} {ks : List E} {A : Option Addr} (hp : PdD w (BtQ lo X l h w) ks A) : PdD w (BtX lo X w) ks A := hp.keep (fun _ _ _ => rfl) (fun _ h => h.1)
theorem PdD.setQ {w : World} {lo X l hh : Nat} {ks : List E} {A : Option Addr} (h : PdD w (BtQ lo X l hh w) ks A) (o : Nat) (v : Value) : PdD (w.setCell ⟨X, o, none⟩ v) (BtQ lo X l hh (w.setCell ⟨X, o, none⟩ v)) ks A :=
  h.keep (fun b o' h => World.cell?_setCell_other _ _ _ _ (by intro e; injection e with e; exact h.1.2.2.1 (by omega))) (fun _ h => ⟨⟨h.1.1, by simpa using h.1.2.1, h.1.2.2.1, h.1.2.2.2.set _ _⟩, h.2⟩)
theorem pdd_fourQ {w : World} {lo X l h : Nat} {ks : List E} {A : Option Addr} (hp : PdD w (BtQ lo X l h w) ks A) (u0 u1 u2 u3 : Value) :
    PdD ((((w.setCell ⟨X, 0, none⟩ u0).setCell ⟨X, 1, none⟩ u1).setCell ⟨X, 2, none⟩ u2).setCell ⟨X, 3, none⟩ u3) (BtQ lo X l h ((((w.setCell ⟨X, 0, none⟩ u0).setCell ⟨X, 1, none⟩ u1).setCell ⟨X, 2, none⟩ u2).setCell ⟨X, 3, none⟩ u3)) ks A :=
  (((hp.setQ 0 u0).setQ 1 u1).setQ 2 u2).setQ 3 u3
theorem pdd_keepX {w w' : World} {lo X : Nat} {ks : List E} {A : Option Addr} (h : PdD w (BtX lo X w) ks A) (hc : ∀ b, lo ≤ b → b < w.heap.size → b ≠ X → w'.heap[b]? = w.heap[b]?) (hz : w.heap.size ≤ w'.heap.size) : PdD w' (BtX lo X w') ks A :=
  h.keep (fun b _ hb => World.cell?_of_block (hc b hb.1 hb.2.1 hb.2.2.1)) (fun b hb => ⟨hb.1, Nat.lt_of_lt_of_le hb.2.1 hz, hb.2.2.1, flat_of_eq hb.2.2.2 (hc b hb.1 hb.2.1 hb.2.2.1)⟩)
theorem pdd_keepQ {w w' : World} {lo X : Nat} {ks : List E} {A : Option Addr} (h : PdD w (BtX lo X w) ks A) (hc : ∀ b, lo ≤ b → b < w.heap.size → b ≠ X → w'.heap[b]? = w.heap[b]?) (hz : w.heap.size ≤ w'.heap.size) : PdD w' (BtQ lo X 0 w.heap.size w') ks A :=
  h.keep (fun b _ hb => World.cell?_of_block (hc b hb.1 hb.2.1 hb.2.2.1)) (fun b hb => ⟨⟨hb.1, Nat.lt_of_lt_of_le hb.2.1 hz, hb.2.2.1, flat_of_eq hb.2.2.2 (hc b hb.1 hb.2.1 hb.2.2.1)⟩, Nat.zero_le _, hb.2.1⟩)
/-- A list that is written out, in a new block. -/
theorem pdd_lit {w : World} {S S' : Nat → Prop} (f : Nat → Nat) (l : List Kd) (hS : S' w.heap.size) (hk : ∀ j, (h : j < l.length) → PdD w (fun c => S c ∧ f c = j) l[j].e.kids l[j].A) (hlt : ∀ b, S b → b < w.heap.size) (hs : ∀ b, S b → S' b) :
    PdD (w.alloc (.cells (kdCells l).toArray 24)) S' (l.map (·.e)) (some ⟨w.heap.size, 0, none⟩) := by
  refine .inr ⟨_, 0, rfl, hS, f, PdDC.mk fun j hj => ?_⟩
  have hj' : j < l.length := by simpa using hj
  have a0 := kdCells_at l j hj' 0 (by omega)
  have a1 := kdCells_at l j hj' 1 (by omega)
  have a2 := kdCells_at l j hj' 2 (by omega)
  have a3 := kdCells_at l j hj' 3 (by omega)
  have cell : ∀ i v, (kdCells l)[i]? = some v → (w.alloc (.cells (kdCells l).toArray 24)).cell? ⟨w.heap.size, 0 + i, none⟩ = some v := by
    intro i v hv
    exact lit_cell w (kdCells l) 24 (0, 0) i v hv
  rw [Nat.add_zero] at a0
  rw [List.getElem_map]
  refine ⟨⟨cell _ _ a0, cell _ _ a1, cell _ _ a2⟩, _, _, cell _ _ a3, ?_⟩
  exact (hk j hj').keep (fun b o h => World.cell?_of_block (heap_alloc_old _ _ (hlt b h.1))) (fun b h => ⟨⟨hs b h.1, fun e => by have := hlt b h.1; omega⟩, by rw [Nat.zero_add]; exact h.2⟩)
/-- Kids in a row of the call's own, and what they lead to, from block lo on and ahead of block hi. -/
def DrD (w : World) (lo hi : Nat) (v : Value) (ks : List E) : Prop := ∃ (xs : List Value) (f : Nat → Nat), w.ownsRow lo 24 4 v ks.length xs ∧ ∀ j, (h : j < ks.length) →
  xs[j * 4]? = some (.int .i64 ks[j].op) ∧ xs[j * 4 + 1]? = some (.int .i64 ks[j].n) ∧ xs[j * 4 + 2]? = some (.string ks[j].name) ∧
    ∃ A c, xs[j * 4 + 3]? = some (.slice A ks[j].kids.length c) ∧ PdD w (fun b => (Between w lo hi b ∧ v.ownBlock ≠ some b) ∧ f b = j) ks[j].kids A
theorem DrD.nil (w : World) (lo hi : Nat) : DrD w lo hi (.slice none 0 0) [] := ⟨[], fun _ => 0, World.ownsRow_nil _ _ _ _, fun j h => absurd h (by simp)⟩
theorem DrD.keep {w w' : World} {lo hi hi' : Nat} {v : Value} {ks : List E} (h : DrD w lo hi v ks) (hh : hi ≤ hi') (hhi : hi ≤ w.heap.size) (hk : ∀ b, lo ≤ b → b < w.heap.size → w'.heap[b]? = w.heap[b]?) : DrD w' lo hi' v ks := by
  obtain ⟨xs, f, ho, hx⟩ := h
  refine ⟨xs, f, ?_, fun j hj => ?_⟩
  · rcases ho with ⟨h1, h2 | ⟨g, cap, cur, e1, e2, e3, e4⟩⟩
    · exact ⟨h1, .inl h2⟩
    · exact ⟨h1, .inr ⟨g, cap, cur, e1, e2, (hk g e2 (Array.getElem?_eq_some_iff.1 e3).1).trans e3, e4⟩⟩
  · obtain ⟨a, b, c, A, d, e, q⟩ := hx j hj
    exact ⟨a, b, c, A, d, e, q.keep (fun b o hb => World.cell?_of_block (hk b hb.1.1.1 (Nat.lt_of_lt_of_le hb.1.1.2.1 hhi))) (fun b hb => ⟨⟨⟨hb.1.1.1, Nat.lt_of_lt_of_le hb.1.1.2.1 hh, flat_of_eq hb.1.1.2.2 (hk b hb.1.1.1 (Nat.lt_of_lt_of_le hb.1.1.2.1 hhi))⟩, hb.1.2⟩, hb.2⟩)⟩
theorem DrD.touch {w w' : World} {R lo hi : Nat} {v : Value} {ks : List E} (h : DrD w lo hi v ks) (ht : Touch R w w') (hR : R < lo) (hhi : hi ≤ w.heap.size) : DrD w' lo hi v ks := h.keep (Nat.le_refl _) hhi (fun b h1 h2 => ht.above b (by omega) h2)
theorem DrD.below {w w' : World} {B lo hi : Nat} {v : Value} {ks : List E} (h : DrD w lo hi v ks) (hb : Below B w w') (hB : w.heap.size ≤ B) (hhi : hi ≤ w.heap.size) : DrD w' lo hi v ks := h.keep (Nat.le_refl _) hhi (fun b _ h2 => hb.block b (Nat.lt_of_lt_of_le h2 hB))
theorem DrD.up {w : World} {lo hi : Nat} {v : Value} {ks : List E} (h : DrD w lo hi v ks) (hhi : hi ≤ w.heap.size) : DrD w lo w.heap.size v ks := h.keep hhi hhi (fun _ _ _ => rfl)
theorem DrD.touch' {w w' : World} {R lo : Nat} {v : Value} {ks : List E} (h : DrD w lo w.heap.size v ks) (ht : Touch R w w') (hR : R < lo) : DrD w' lo w'.heap.size v ks := h.keep ht.below.size (Nat.le_refl _) (fun b h1 h2 => ht.above b (by omega) h2)
theorem DrD.slice {w : World} {lo hi : Nat} {v : Value} {ks : List E} (h : DrD w lo hi v ks) : ∃ A c, v = .slice A ks.length c := by
  obtain ⟨xs, f, ho, _⟩ := h
  rcases ho.2 with ⟨rfl, h0⟩ | ⟨g, cap, cur, rfl, _⟩
  · exact ⟨none, 0, by rw [h0]⟩
  · exact ⟨_, cap, rfl⟩
theorem DrD.owned {w : World} {lo hi : Nat} {v : Value} {ks : List E} (h : DrD w lo hi v ks) : ∀ k, v.ownBlock = some k → lo ≤ k ∧ k < w.heap.size := by
  obtain ⟨xs, f, ho, _⟩ := h
  exact World.ownsRow.lt ho
theorem DrD.pd {w : World} {lo hi n c : Nat} {A : Option Addr} {ks : List E} (h : DrD w lo hi (.slice A n c) ks) (hhi : hi ≤ w.heap.size) : PdD w (Between w lo w.heap.size) ks A := by
  obtain ⟨xs, f, ho, hx⟩ := h
  rcases ho.2 with ⟨e, h0⟩ | ⟨g, cap, cur, e, hg, hb, hn, hm, hs, ht⟩
  · exact .inl (List.length_eq_zero_iff.1 h0)
  · injection e with e1 e2 e3
    subst e1
    have hlt : g < w.heap.size := (Array.getElem?_eq_some_iff.1 hb).1
    refine .inr ⟨g, 0, rfl, ⟨hg, hlt, _, _, hb⟩, f, PdDC.mk fun i hi => ?_⟩
    obtain ⟨a, b, cc, A', d, ee, q⟩ := hx i hi
    have cell : ∀ j, j < ks.length * 4 → w.cell? ⟨g, 0 + j, none⟩ = xs[j]? := by
      intro j hj
      rw [Nat.zero_add, ← ht, List.getElem?_take_of_lt hj]
      unfold World.cell?
      simp [hb]
    exact ⟨⟨(cell _ (by omega)).trans a, (cell _ (by omega)).trans b, (cell _ (by omega)).trans cc⟩, A', d, (cell _ (by omega)).trans ee, q.keep (fun _ _ _ => rfl) (fun x h => ⟨⟨⟨h.1.1.1, Nat.lt_of_lt_of_le h.1.1.2.1 hhi, h.1.1.2.2⟩, fun e => h.1.2 (by rw [e]; rfl)⟩, by rw [Nat.zero_add]; exact h.2⟩)⟩
/-- One Kid more, whose blocks lie from block x on. -/
theorem DrD.snoc {w w' : World} {lo x n g cap : Nat} {v : Value} {ks : List E} {xs : List Value} {f : Nat → Nat} (k : Kd)
    (hx : ∀ j, (h : j < ks.length) → xs[j * 4]? = some (.int .i64 ks[j].op) ∧ xs[j * 4 + 1]? = some (.int .i64 ks[j].n) ∧ xs[j * 4 + 2]? = some (.string ks[j].name) ∧ ∃ A c, xs[j * 4 + 3]? = some (.slice A ks[j].kids.length c) ∧ PdD w (fun b => (Between w lo x b ∧ v.ownBlock ≠ some b) ∧ f b = j) ks[j].kids A)
    (hl : xs.length = ks.length * 4) (hn : ks.length = n) (hlx : lo ≤ x) (hxs : x ≤ w.heap.size) (hown : w'.ownsRow lo 24 4 (.slice (some ⟨g, 0, none⟩) (n + 1) cap) (n + 1) (xs ++ k.cells)) (hg : w.grownBy w' v.ownBlock) (hat : v.ownBlock = some g ∨ g = w.heap.size)
    (hk : PdD w (fun b => Between w x w.heap.size b ∧ v.ownBlock ≠ some b) k.e.kids k.A) : DrD w' lo w.heap.size (.slice (some ⟨g, 0, none⟩) (n + 1) cap) (ks ++ [k.e]) := by
  have own : ∀ b, b < w.heap.size → v.ownBlock ≠ some b → (Value.slice (some ⟨g, 0, none⟩) (n + 1) cap).ownBlock ≠ some b := by
    intro b hb hv e
    have e : g = b := by injection e
    rcases hat with h1 | h1
    · exact hv (by rw [h1, e])
    · omega
  refine ⟨xs ++ k.cells, fun b => if b < x then f b else ks.length, ?_, fun j hj => ?_⟩
  · rw [List.length_append, hn]; exact hown
  · by_cases hjk : j < ks.length
    · obtain ⟨a, b, c, A, d, e, q⟩ := hx j hjk
      rw [List.getElem_append_left hjk]
      have q' : PdD w' (fun b => (Between w' lo w.heap.size b ∧ (Value.slice (some ⟨g, 0, none⟩) (n + 1) cap).ownBlock ≠ some b) ∧ (if b < x then f b else ks.length) = j) ks[j].kids A := by
        refine q.keep (fun b o hb => World.cell?_of_block (hg.block b (Nat.lt_of_lt_of_le hb.1.1.2.1 hxs) (fun e => hb.1.2 e.symm))) (fun b hb => ?_)
        have hbw := Nat.lt_of_lt_of_le hb.1.1.2.1 hxs
        exact ⟨⟨⟨hb.1.1.1, hbw, flat_of_eq hb.1.1.2.2 (hg.block b hbw (fun e => hb.1.2 e.symm))⟩, own b hbw hb.1.2⟩, by rw [if_pos hb.1.1.2.1]; exact hb.2⟩
      refine ⟨?_, ?_, ?_, A, d, ?_, q'⟩ <;> (rw [List.getElem?_append_left (by omega)]; assumption)
    · have hj' : j = ks.length := by simp at hj; omega
      subst hj'
      simp only [List.getElem_concat_length]
      have at_ : ∀ i, i < 4 → (xs ++ k.cells)[ks.length * 4 + i]? = k.cells[i]? := by
        intro i hi
        rw [List.getElem?_append_right (by omega), hl]
        congr 1
        omega
      refine ⟨at_ 0 (by omega), at_ 1 (by omega), at_ 2 (by omega), k.A, k.c, at_ 3 (by omega), ?_⟩
      refine hk.keep (fun b o hb => World.cell?_of_block (hg.block b hb.1.2.1 (fun e => hb.2 e.symm))) (fun b hb => ?_)
      exact ⟨⟨⟨Nat.le_trans hlx hb.1.1, hb.1.2.1, flat_of_eq hb.1.2.2 (hg.block b hb.1.2.1 (fun e => hb.2 e.symm))⟩, own b hb.1.2.1 hb.2⟩, by rw [if_neg (by have := hb.1.1; omega)]⟩
end Go.Proofs.YtkhcfhhejmkikaaGreatDoor
