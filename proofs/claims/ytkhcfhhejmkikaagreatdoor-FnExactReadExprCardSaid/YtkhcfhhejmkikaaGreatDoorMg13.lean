/-
  For every text the model's ReadExpr and the program's ReadExpr give the same, what the program gives lies in blocks of its own that are all different, and nothing that was there turns. Conditions: the program's tables and the library's variables stand as their text lays them (tied by the card).
-/
import Derived.Test.YtkhcfhhejmkikaaGreatDoorMg12
import Derived.ProofKit
import Derived.LaidMore
import Derived.OpenShut
import Derived.Stop.Joined
import Derived.Carry
import Derived.ChangeSame
import Derived.Lib.LaidTab
import Derived.WalkSmall
import Derived.MakeChecks
import Derived.Test.YtkhcfhhejmkikaaGreatDoorRows
import Derived.LaidLaws
import Derived.Deep.Fields
import Derived.ShapedOpen
import Derived.Test.YtkhcfhhejmkikaaGreatDoorCards
import Derived.Test.YtkhcfhhejmkikaaGreatDoorTie
import Derived.SevenTiedAt
namespace Go.Proofs.YtkhcfhhejmkikaaGreatDoor
open Go.RowKit
set_option maxRecDepth 100000

mutual
/-- A part with its marks, from the number k on. -/
def mkE : E → Nat → E
  | .mk _ _ _ ks, k => .mk (k : Int) ((k : Int) + 1) (markB (k + 2)) (mkL ks (k + 3))
def mkL : List E → Nat → List E
  | [], _ => []
  | e :: ks, k => mkE e k :: mkL ks (k + 3 * sizeE e)
end
theorem mkE_eq (e : E) (k : Nat) : mkE e k = .mk (k : Int) ((k : Int) + 1) (markB (k + 2)) (mkL e.kids (k + 3)) := by cases e; rw [mkE]; rfl
theorem mkL_len : ∀ (ks : List E) (k : Nat), (mkL ks k).length = ks.length
  | [], _ => by rw [mkL]
  | e :: ks, k => by rw [mkL, List.length_cons, List.length_cons, mkL_len ks]
theorem mkL_get : ∀ (ks : List E) (k i : Nat) (h : i < ks.length) (h' : i < (mkL ks k).length), (mkL ks k)[i] = mkE ks[i] (k + 3 * sizeL (ks.take i))
  | [], _, i, h, _ => absurd h (by simp)
  | e :: ks, k, 0, _, h' => by
    simp only [mkL, List.getElem_cons_zero, List.take_zero]
    rfl
  | e :: ks, k, i + 1, h, h' => by
    simp only [mkL, List.getElem_cons_succ, List.take_succ_cons]
    rw [mkL_get ks (k + 3 * sizeE e) i (by simpa using h) (by rw [mkL_len]; simpa using h)]
    congr 1
    show _ = k + 3 * (sizeE e + sizeL (ks.take i))
    omega
theorem flat_free {w : World} {b : Nat} (h : Flat w b) (o : Nat) : w.frozen? ⟨b, o, none⟩ = false := by
  obtain ⟨cs, t, h⟩ := h
  exact frozen_of_row w b o cs t h
/-- Only blocks of a kind are written. -/
structure Upd (base : Nat) (S : Nat → Prop) (w w' : World) : Prop where
  below : Below base w w'
  same : ∀ b, b < w.heap.size → ¬ S b → w'.heap[b]? = w.heap[b]?
theorem Upd.refl (base : Nat) (S : Nat → Prop) (w : World) : Upd base S w w := ⟨Below.refl _ _, fun _ _ _ => rfl⟩
theorem Upd.trans {base : Nat} {S : Nat → Prop} {a b c : World} (h : Upd base S a b) (k : Upd base S b c) : Upd base S a c :=
  ⟨h.below.trans k.below, fun i h1 h2 => (k.same i (Nat.lt_of_lt_of_le h1 h.below.size) h2).trans (h.same i h1 h2)⟩
theorem Upd.mono {base : Nat} {S S' : Nat → Prop} {a b : World} (h : Upd base S a b) (hs : ∀ c, S c → S' c) : Upd base S' a b := ⟨h.below, fun i h1 h2 => h.same i h1 (fun e => h2 (hs i e))⟩
theorem Upd.of_below {base : Nat} {S : Nat → Prop} {a b : World} (h : Below a.heap.size a b) (hb : base ≤ a.heap.size) : Upd base S a b := ⟨h.mono hb, fun i h1 _ => h.block i h1⟩
theorem Upd.set {base : Nat} {S : Nat → Prop} {w : World} {b : Nat} (hS : S b) (hb : base ≤ b) (o : Nat) (v : Value) : Upd base S w (w.setCell ⟨b, o, none⟩ v) :=
  ⟨(Below.refl _ _).setCell (p := ⟨b, o, none⟩) hb _, fun i _ h2 => by
    show (w.heap.modify b _)[i]? = _
    rw [Array.getElem?_modify, if_neg (by intro e; subst e; exact h2 hS)]⟩
/-- A list's element, with the colour of what lies below it. -/
def AtC (w : World) (S : Nat → Prop) (f : Nat → Nat) (b o i : Nat) (e : E) : Prop := PdDAt w (fun c => S c ∧ f c = i) e b (o + i * 4)
/-- Behind j elements. -/
def MkRel (w0 : World) (base : Nat) (S : Nat → Prop) (f : Nat → Nat) (b o : Nat) (ks : List E) (k j : Nat) (wr : World) : Prop :=
  (∀ i, (h : i < ks.length) → AtC wr (fun c => S c ∧ c ≠ b) f b o i (if i < j then mkE ks[i] (k + 3 * sizeL (ks.take i)) else ks[i])) ∧ Upd base S w0 wr ∧ ∀ c, S c → Flat wr c
theorem flat_set {w : World} {c : Nat} (h : Flat w c) (p : Addr) (v : Value) : Flat (w.setCell p v) c := h.set p v
/-- An element that lies elsewhere stays. -/
theorem AtC.keep {w w' : World} {S : Nat → Prop} {f : Nat → Nat} {b o i : Nat} {e : E} (h : AtC w (fun c => S c ∧ c ≠ b) f b o i e) (hb : ∀ j, j < 4 → w'.cell? ⟨b, o + i * 4 + j, none⟩ = w.cell? ⟨b, o + i * 4 + j, none⟩)
    (hs : ∀ c, S c → c ≠ b → f c = i → w'.heap[c]? = w.heap[c]?) : AtC w' (fun c => S c ∧ c ≠ b) f b o i e := by
  obtain ⟨⟨c0, c1, c2⟩, A, cap, c3, hp⟩ := h
  have b0 := hb 0 (by omega)
  rw [Nat.add_zero] at b0
  refine ⟨⟨b0.trans c0, (hb 1 (by omega)).trans c1, (hb 2 (by omega)).trans c2⟩, A, cap, (hb 3 (by omega)).trans c3, ?_⟩
  exact hp.keep (fun c o hc => World.cell?_of_block (hs c hc.1.1 hc.1.2 hc.2)) (fun c hc => hc)
theorem cell_set_ne (w : World) (b o o' : Nat) (v : Value) (h : o' ≠ o) : (w.setCell ⟨b, o, none⟩ v).cell? ⟨b, o', none⟩ = w.cell? ⟨b, o', none⟩ := World.cell?_setCell_other _ _ _ _ (by intro e; injection e with _ e; exact h e.symm)
/-- One element more: three stores, and its Kids. -/
theorem MkRel.step {w0 w1 w2 w3 : World} {base : Nat} {S : Nat → Prop} {f : Nat → Nat} {b o k j : Nat} {ks : List E} (h : MkRel w0 base S f b o ks k j w1) (hj : j < ks.length) (hSb : S b) (hlt : ∀ c, S c → c < w1.heap.size) {A : Option Addr} {cap : Nat} {kk : Nat} (hk : kk = k + 3 * sizeL (ks.take j))
    (h12 : Upd base (fun c => c = b) w1 w2) (hf2 : Flat w2 b)
    (d0 : w2.cell? ⟨b, o + j * 4, none⟩ = some (.int .i64 (kk : Int))) (d1 : w2.cell? ⟨b, o + j * 4 + 1, none⟩ = some (.int .i64 ((kk : Int) + 1))) (d2 : w2.cell? ⟨b, o + j * 4 + 2, none⟩ = some (.string (markB (kk + 2)))) (d3 : w2.cell? ⟨b, o + j * 4 + 3, none⟩ = some (.slice A ks[j].kids.length cap))
    (hother : ∀ p, p < o + j * 4 ∨ o + j * 4 + 4 ≤ p → w2.cell? ⟨b, p, none⟩ = w1.cell? ⟨b, p, none⟩)
    (hp : PdD w3 (fun c => (S c ∧ c ≠ b) ∧ f c = j) (mkL ks[j].kids (kk + 3)) A) (h23 : Upd base (fun c => (S c ∧ c ≠ b) ∧ f c = j) w2 w3) (hf3 : ∀ c, (S c ∧ c ≠ b) ∧ f c = j → Flat w3 c) :
    MkRel w0 base S f b o ks k (j + 1) w3 := by
  have hs12 := h12.below.size
  have hb2 : b < w2.heap.size := Nat.lt_of_lt_of_le (hlt b hSb) hs12
  have hbb : w3.heap[b]? = w2.heap[b]? := h23.same b hb2 (fun e => e.1.2 rfl)
  have hcc : ∀ p, w3.cell? ⟨b, p, none⟩ = w2.cell? ⟨b, p, none⟩ := fun p => World.cell?_of_block hbb
  have heap12 : ∀ c, S c → c ≠ b → w2.heap[c]? = w1.heap[c]? := fun c hc hne => h12.same c (hlt c hc) hne
  have heap23 : ∀ c, S c → c ≠ b → f c ≠ j → w3.heap[c]? = w2.heap[c]? := fun c hc hne hfc => h23.same c (Nat.lt_of_lt_of_le (hlt c hc) hs12) (fun e => hfc e.2)
  refine ⟨fun i hi => ?_, (h.2.1.trans (h12.mono (fun c hc => by subst hc; exact hSb))).trans (h23.mono (fun c hc => hc.1.1)), fun c hc => ?_⟩
  · by_cases hij : i = j
    · subst hij
      rw [if_pos (Nat.lt_succ_self _), mkE_eq, ← hk]
      refine ⟨⟨(hcc _).trans d0, (hcc _).trans d1, (hcc _).trans d2⟩, A, cap, ?_, hp⟩
      rw [show (E.mk (kk : Int) ((kk : Int) + 1) (markB (kk + 2)) (mkL ks[i].kids (kk + 3))).kids.length = ks[i].kids.length from mkL_len _ _]
      exact (hcc _).trans d3
    · have hite : ∀ x y : E, (if i < j + 1 then x else y) = if i < j then x else y := by
        intro x y
        by_cases h1 : i < j
        · rw [if_pos h1, if_pos (by omega)]
        · rw [if_neg h1, if_neg (by omega)]
      have h0 := h.1 i hi
      rw [hite]
      refine h0.keep (fun q hq => ?_) (fun c hc hne hfc => ?_)
      · rw [hcc]
        exact hother _ (by omega)
      · exact (heap23 c hc hne (by omega)).trans (heap12 c hc hne)
  · by_cases hcb : c = b
    · subst hcb
      exact flat_of_eq hf2 hbb
    · by_cases hfc : f c = j
      · exact hf3 c ⟨⟨hc, hcb⟩, hfc⟩
      · exact flat_of_eq (h.2.2 c hc) ((heap23 c hc hcb hfc).trans (heap12 c hc hcb))
theorem MkRel.pd {w0 w1 : World} {base : Nat} {S : Nat → Prop} {f : Nat → Nat} {b o k : Nat} {ks : List E} (h : MkRel w0 base S f b o ks k ks.length w1) (hSb : S b) : PdD w1 S (mkL ks k) (some ⟨b, o, none⟩) := by
  refine .inr ⟨b, o, rfl, hSb, f, PdDC.mk fun i hi => ?_⟩
  have hi' : i < ks.length := by rw [mkL_len] at hi; exact hi
  have h0 := h.1 i hi'
  rw [if_pos hi'] at h0
  rw [mkL_get ks k i hi' hi, Nat.zero_add]
  exact h0
end Go.Proofs.YtkhcfhhejmkikaaGreatDoor

namespace Go.Proofs.YtkhcfhhejmkikaaGreatDoor
open Go.RowKit
set_option maxRecDepth 100000

def MkRet (base : Nat) (S : Nat → Prop) (ks : List E) (A : Option Addr) (k : Nat) (w : World) (ee : Ending) (w' : World) : Prop :=
  ee = .returned (.int .i64 ((k + 3 * sizeL ks : Nat) : Int)) ∧ PdD w' S (mkL ks k) A ∧ Upd base S w w' ∧ ∀ c, S c → Flat w' c
def MkP (ks : List E) : Prop := ∀ (A : Option Addr) (cap : Nat) (w : World) (base : Nat) (S : Nat → Prop) (k : Nat), PdD w S ks A → base ≤ w.heap.size → (∀ c, S c → base ≤ c ∧ c < w.heap.size ∧ Flat w c) → 0 < k → k + 3 * sizeL ks ≤ 900000 →
  Calls Tryz.prog 32 #[.slice A ks.length cap, .int .i64 (k : Int)] w (MkRet base S ks A k w)
set_option maxHeartbeats 4000000 in
theorem markExprS_of (ks : List E) (H : ∀ e ∈ ks, MkP e.kids) : MkP ks := by
  intro A cap w base S k hP hbase hS hk0 hk1
  have hll := length_le_sizeL ks
  rcases hP with rfl | ⟨b, o, rfl, hSb, f, hr⟩
  · have HS := Lib.hid hS
    clear H hS
    go_enter Tryz.func32, Tryz.ntmps32
    go_wp2_with fail
    go_loopw [1, 5] (fun m i wr => i = .int .i64 0 ∧ m = .int .i64 (k : Int) ∧ wr = w) (fun _ _ _ => 0)
    case atStart => exact ⟨rfl, rfl, rfl⟩
    case round =>
      obtain ⟨rfl, rfl, rfl⟩ := hrel
      go_wp2_with fail
      go_ret
      exact ⟨rfl, .inl (by rw [mkL]), Upd.refl _ _ _, fun c hc => (HS.out c hc).2.2⟩
  · have HK := Lib.hid (fun i (h : i < ks.length) => H _ (List.getElem_mem h))
    have HS := Lib.hid hS
    have hbb := hS b hSb
    have HST := Lib.hid (show MkRel w base S f b o ks k 0 w from ⟨fun i hi => by
      rw [if_neg (Nat.not_lt_zero _)]
      have := hr.get hi
      rw [Nat.zero_add] at this
      exact this, Upd.refl _ _ _, fun c hc => (hS c hc).2.2⟩)
    clear H hS hr
    go_enter Tryz.func32, Tryz.ntmps32
    go_wp2_with fail
    go_loopw [1, 5] (fun m i wr => ∃ j : Nat, j ≤ ks.length ∧ i = .int .i64 j ∧ m = .int .i64 ((k + 3 * sizeL (ks.take j) : Nat) : Int) ∧ MkRel w base S f b o ks k j wr) (fun _ i _ => ks.length - (intOf i).toNat)
    case atStart => exact ⟨0, Nat.zero_le _, rfl, by rw [List.take_zero]; rfl, HST.out⟩
    case round =>
      clear HST
      obtain ⟨j, hj, rfl, rfl, hM⟩ := hrel
      have htl := sizeL_take_le ks j
      by_cases hlt : j < ks.length
      · have hj0 := hM.1 j hlt
        rw [if_neg (Nat.lt_irrefl _)] at hj0
        obtain ⟨⟨c0, c1, c2⟩, A1, cap1, c3, hp⟩ := hj0
        have hfr := flat_free (hM.2.2 b hSb)
        have hsz := hM.2.1.below.size
        have hbw : b < wr.heap.size := Nat.lt_of_lt_of_le hbb.2.1 hsz
        have htk := sizeL_take hlt
        have htk1 := sizeL_take_le ks (j + 1)
        have hse := sizeE_kids ks[j]
        have HM := Lib.hid hM
        have HP := Lib.hid hp
        clear hM hp
        obtain ⟨kk, hkk⟩ : ∃ kk, kk = k + 3 * sizeL (ks.take j) := ⟨_, rfl⟩
        have HKK := Lib.hid hkk
        rw [← hkk]
        have hkk1 : kk ≤ 900000 := by omega
        have hkk0 : 0 < kk := by omega
        have hkk2 : kk + 3 + 3 * sizeL ks[j].kids ≤ 900000 := by omega
        have HTK := Lib.hid (show kk + 3 + 3 * sizeL ks[j].kids = k + 3 * sizeL (ks.take (j + 1)) by omega)
        have CM := fun W => markText_any (kk + 2) W (by omega) (by omega)
        have e2 : ((kk + 2 : Nat) : Int) = (kk : Int) + 1 + 1 := by omega
        rw [e2] at CM
        have CM := fun W => Lib.hid (CM W)
        have CK := fun W S' h1 h2 h3 => HK.out j hlt A1 cap1 W base S' (kk + 3) h1 h2 h3 (by omega) hkk2
        have e3 : ((kk + 3 : Nat) : Int) = (kk : Int) + 1 + 1 + 1 := by omega
        rw [e3] at CK
        have CK := fun W S' h1 h2 h3 => Lib.hid (CK W S' h1 h2 h3)
        clear hkk htk htk1 hse e2 e3
        generalize hkd : ks[j].kids.length = nk at *
        have HKD := Lib.hid hkd
        clear hkd
        generalize ks[j].op = op0 at *
        generalize ks[j].n = n0 at *
        generalize ks[j].name = nm0 at *
        have f0 := hfr (o + j * 4)
        have f1 := hfr (o + j * 4 + 1)
        have f2 := hfr (o + j * 4 + 2)
        clear hfr
        go_wp2_with fail
        (with_reducible refine Calls.mono (CM _).out ?_)
        rintro ee w2 ⟨rfl, hb2⟩
        have hU2 : Upd base (fun c => c = b) wr w2 := ((Upd.set (S := fun c => c = b) rfl hbb.1 _ _).trans (Upd.set (S := fun c => c = b) rfl hbb.1 _ _)).trans (Upd.of_below hb2 (by simp; omega))
        have HU2 := Lib.hid hU2
        have hz2 := hU2.below.size
        have hbw2 : b < w2.heap.size := Nat.lt_of_lt_of_le hbw hz2
        have g0 : w2.cell? ⟨b, o + j * 4, none⟩ = some (.int .i64 (kk : Int)) := by
          rw [hb2.cell (p := ⟨b, _, none⟩) (by simpa using hbw), cell_set_ne _ _ _ _ _ (by omega)]
          exact World.cell?_setCell_same _ _ _ c0
        have g1 : w2.cell? ⟨b, o + j * 4 + 1, none⟩ = some (.int .i64 ((kk : Int) + 1)) := by
          rw [hb2.cell (p := ⟨b, _, none⟩) (by simpa using hbw)]
          exact World.cell?_setCell_same _ _ _ ((cell_set_ne _ _ _ _ _ (by omega)).trans c1)
        have g2 : w2.cell? ⟨b, o + j * 4 + 2, none⟩ = some (.string nm0) := by
          rw [hb2.cell (p := ⟨b, _, none⟩) (by simpa using hbw), cell_set_ne _ _ _ _ _ (by omega), cell_set_ne _ _ _ _ _ (by omega)]
          exact c2
        have g3 : w2.cell? ⟨b, o + j * 4 + 3, none⟩ = some (.slice A1 nk cap1) := by
          rw [hb2.cell (p := ⟨b, _, none⟩) (by simpa using hbw), cell_set_ne _ _ _ _ _ (by omega), cell_set_ne _ _ _ _ _ (by omega)]
          exact c3
        have GO := Lib.hid (show ∀ p, p < o + j * 4 ∨ o + j * 4 + 4 ≤ p → w2.cell? ⟨b, p, none⟩ = wr.cell? ⟨b, p, none⟩ from fun p hp => by
          rw [hb2.cell (p := ⟨b, _, none⟩) (by simpa using hbw), cell_set_ne _ _ _ _ _ (by omega), cell_set_ne _ _ _ _ _ (by omega)])
        have GF := Lib.hid (show Flat w2 b from ((HM.out.2.2 b hSb).set _ _ |>.set _ _).below hb2 (by simpa using hbw))
        have q2 : w2.frozen? ⟨b, o + j * 4 + 2, none⟩ = false := flat_free GF.out _
        clear hU2 hb2 c0 c1 c2 c3 f0 f1 f2
        go_wp2_with fail
        have HU3 := Lib.hid (HU2.out.trans (Upd.set (b := b) (S := fun c => c = b) rfl hbb.1 (o + j * 4 + 2) (.string (markB (kk + 2)))))
        have HP3 := Lib.hid (show PdD (w2.setCell ⟨b, o + j * 4 + 2, none⟩ (.string (markB (kk + 2)))) (fun c => (S c ∧ c ≠ b) ∧ f c = j) ks[j].kids A1 from
          HP.out.keep (fun c o' hc => World.cell?_of_block (HU3.out.same c (Nat.lt_of_lt_of_le (HS.out c hc.1.1).2.1 hsz) hc.1.2)) (fun c hc => hc))
        have HF3 := Lib.hid (show ∀ c, (S c ∧ c ≠ b) ∧ f c = j → base ≤ c ∧ c < (w2.setCell ⟨b, o + j * 4 + 2, none⟩ (.string (markB (kk + 2)))).heap.size ∧ Flat (w2.setCell ⟨b, o + j * 4 + 2, none⟩ (.string (markB (kk + 2)))) c from
          fun c hc => ⟨(HS.out c hc.1.1).1, Nat.lt_of_lt_of_le (HS.out c hc.1.1).2.1 (Nat.le_trans hsz HU3.out.below.size), flat_of_eq (HM.out.2.2 c hc.1.1) (HU3.out.same c (Nat.lt_of_lt_of_le (HS.out c hc.1.1).2.1 hsz) hc.1.2)⟩)
        have k0 := (cell_set_ne w2 b (o + j * 4 + 2) (o + j * 4) (.string (markB (kk + 2))) (by omega)).trans g0
        have k1 := (cell_set_ne w2 b (o + j * 4 + 2) (o + j * 4 + 1) (.string (markB (kk + 2))) (by omega)).trans g1
        have k2 := World.cell?_setCell_same w2 ⟨b, o + j * 4 + 2, none⟩ (.string (markB (kk + 2))) g2
        have k3 := (cell_set_ne w2 b (o + j * 4 + 2) (o + j * 4 + 3) (.string (markB (kk + 2))) (by omega)).trans g3
        have GO3 := Lib.hid (show ∀ p, p < o + j * 4 ∨ o + j * 4 + 4 ≤ p → (w2.setCell ⟨b, o + j * 4 + 2, none⟩ (.string (markB (kk + 2)))).cell? ⟨b, p, none⟩ = wr.cell? ⟨b, p, none⟩ from fun p hp => (cell_set_ne _ _ _ _ _ (by omega)).trans (GO.out p hp))
        have GF3 := Lib.hid (GF.out.set ⟨b, o + j * 4 + 2, none⟩ (.string (markB (kk + 2))))
        have hbs3 : base ≤ (w2.setCell ⟨b, o + j * 4 + 2, none⟩ (.string (markB (kk + 2)))).heap.size := Nat.le_trans hbase (Nat.le_trans hsz HU3.out.below.size)
        have CK3 := Lib.hid (CK _ _ HP3.out hbs3 HF3.out).out
        generalize w2.setCell ⟨b, o + j * 4 + 2, none⟩ (.string (markB (kk + 2))) = w3 at *
        (with_reducible refine Calls.mono CK3.out ?_)
        rintro ee w4 ⟨rfl, hp4, hu4, hf4⟩
        have HN := Lib.hid (HM.out.step hlt hSb (fun c hc => Nat.lt_of_lt_of_le (HS.out c hc).2.1 hsz) (cap := cap1) HKK.out HU3.out GF3.out k0 k1 k2 (by rw [HKD.out]; exact k3) GO3.out hp4 hu4 hf4)
        clear hp4 hu4 hf4 k0 k1 k2 k3 g0 g1 g2 g3 CK3
        go_wp2_with fail
        go_roundw
        case rel => exact ⟨j + 1, by omega, by go_num, congrArg (Value.int .i64) (by have := HTK.out; omega), HN.out⟩
        case measure => simp only [intOf]; omega
      · obtain rfl : j = ks.length := by omega
        have HM := Lib.hid hM
        clear hM
        go_wp2_with fail
        go_ret
        exact ⟨by rw [List.take_length]; rfl, HM.out.pd hSb, HM.out.2.1, HM.out.2.2⟩
theorem markExprS_any : ∀ (N : Nat) (ks : List E), sizeL ks ≤ N → MkP ks := by
  intro N
  induction N with
  | zero =>
    intro ks hN
    cases ks with
    | nil => exact markExprS_of [] (fun e he => by cases he)
    | cons k ks => have := sizeE_pos k; have : sizeL (k :: ks) = sizeE k + sizeL ks := rfl; omega
  | succ N ih =>
    intro ks hN
    refine markExprS_of ks fun e he => ih _ ?_
    have := sizeL_mem he
    rw [sizeE_kids] at this
    omega
def HdP (ks : List E) : Prop := ∀ (A : Option Addr) (cap : Nat) (w : World) (k : Nat), RdS w w.heap.size (mkL ks k) A → 0 < k → k + 3 * sizeL ks ≤ 900000 →
  Calls Tryz.prog 33 #[.slice A ks.length cap, .int .i64 (k : Int)] w (fun ee w' => ee = .returned (.int .i64 ((k + 3 * sizeL ks : Nat) : Int)) ∧ Below w.heap.size w w')
set_option maxHeartbeats 4000000 in
theorem heldExprS_of (ks : List E) (H : ∀ e ∈ ks, HdP e.kids) : HdP ks := by
  intro A cap w k hR hk0 hk1
  have hll := length_le_sizeL ks
  have HK := Lib.hid (fun i (h : i < ks.length) => H _ (List.getElem_mem h))
  have HR := Lib.hid hR
  clear H hR
  go_enter Tryz.func33, Tryz.ntmps33
  go_wp2_with fail
  go_loopw [1, 5] (fun m i wr => ∃ j : Nat, j ≤ ks.length ∧ i = .int .i64 j ∧ m = .int .i64 ((k + 3 * sizeL (ks.take j) : Nat) : Int) ∧ Below w.heap.size w wr) (fun _ i _ => ks.length - (intOf i).toNat)
  case atStart => exact ⟨0, Nat.zero_le _, rfl, by rw [List.take_zero]; rfl, Below.refl _ _⟩
  case round =>
    obtain ⟨j, hj, rfl, rfl, hb⟩ := hrel
    have htl := sizeL_take_le ks j
    by_cases hlt : j < ks.length
    · have hlm : j < (mkL ks k).length := by rw [mkL_len]; exact hlt
      have hbs := hb.size
      obtain ⟨b, o, rfl, hB, ⟨c0, c1, c2⟩, A1, cap1, c3, hr⟩ := (HR.out.below hb).at_ hlm
      rw [mkL_get ks k j hlt hlm, mkE_eq] at c0 c1 c2 c3 hr
      replace c0 : wr.cell? ⟨b, o + j * 4, none⟩ = some (.int .i64 ((k + 3 * sizeL (ks.take j) : Nat) : Int)) := c0
      replace c1 : wr.cell? ⟨b, o + j * 4 + 1, none⟩ = some (.int .i64 (((k + 3 * sizeL (ks.take j) : Nat) : Int) + 1)) := c1
      replace c2 : wr.cell? ⟨b, o + j * 4 + 2, none⟩ = some (.string (markB (k + 3 * sizeL (ks.take j) + 2))) := c2
      replace c3 : wr.cell? ⟨b, o + j * 4 + 3, none⟩ = some (.slice A1 (mkL ks[j].kids (k + 3 * sizeL (ks.take j) + 3)).length cap1) := c3
      replace hr : RdS wr w.heap.size (mkL ks[j].kids (k + 3 * sizeL (ks.take j) + 3)) A1 := hr
      rw [mkL_len] at c3
      have htk := sizeL_take hlt
      have htk1 := sizeL_take_le ks (j + 1)
      have hse := sizeE_kids ks[j]
      have hbw : b < wr.heap.size := by omega
      have HRr := Lib.hid hr
      clear hr
      generalize hkk : k + 3 * sizeL (ks.take j) = kk at *
      have HKK := Lib.hid hkk
      have hkk1 : kk ≤ 900000 := by omega
      have hkk0 : 0 < kk := by omega
      have hkk2 : kk + 3 + 3 * sizeL ks[j].kids ≤ 900000 := by omega
      have HTK := Lib.hid (show kk + 3 + 3 * sizeL ks[j].kids = k + 3 * sizeL (ks.take (j + 1)) by omega)
      have CM := fun W => markText_any (kk + 2) W (by omega) (by omega)
      have e2 : ((kk + 2 : Nat) : Int) = (kk : Int) + 1 + 1 := by omega
      rw [e2] at CM
      have CM := fun W => Lib.hid (CM W)
      have CK := fun W h1 => HK.out j hlt A1 cap1 W (kk + 3) h1 (by omega) hkk2
      have e3 : ((kk + 3 : Nat) : Int) = (kk : Int) + 1 + 1 + 1 := by omega
      rw [e3] at CK
      have CK := fun W h1 => Lib.hid (CK W h1)
      have r1 : ((kk : Int) != (kk : Int)) = false := by simp
      have r2 : (((kk : Int) + 1) != ((kk : Int) + 1)) = false := by simp
      have r3 : ((markB (kk + 2)).toList != (markB (kk + 2)).toList) = false := by simp
      clear hkk htk htk1 hse e2 e3
      generalize markB (kk + 2) = mb at *
      have hpos : (0 : Int) ≤ ((kk + 3 + 3 * sizeL ks[j].kids : Nat) : Int) := Int.natCast_nonneg _
      generalize ks[j].kids.length = nk at *
      generalize hq : kk + 3 + 3 * sizeL ks[j].kids = kq at *
      have HQ := Lib.hid hq
      clear hq
      go_wp2_with fail
      go_region_held3 (fun u => u.cell? ⟨b, o + j * 4 + 2, none⟩ = some (.string mb) ∧ u.cell? ⟨b, o + j * 4 + 3, none⟩ = some (.slice A1 nk cap1)) (go_keep)
        (first | (go_at_call 68; refine (CM _).out.mono ?_; rintro en w2 ⟨rfl, hb1⟩; have g2 := (hb1.cell (p := ⟨b, o + j * 4 + 2, none⟩) hbw).trans c2; have g3 := (hb1.cell (p := ⟨b, o + j * 4 + 3, none⟩) hbw).trans c3))
      all_goals
        have hb2 := hb.drew.trans (hb1.mono (show w.heap.size ≤ wr.heap.size from hb.size))
        have hbb := (Below.refl wr.heap.size wr).drew.trans (hb1.mono (Nat.le_refl _))
        have CK2 := Lib.hid (CK _ (HRr.out.on (hbb.mono hbs) (Nat.le_trans hbs hbb.size))).out
        clear hb hb1 c0 c1 c2 c3 g2
        go_wp2_with fail
        (with_reducible refine Calls.mono CK2.out ?_)
        rintro en w3 ⟨rfl, hb3⟩
        have hb4 := hb2.trans (hb3.mono hb2.size)
        clear hb3 hb2
        go_wp2_with fail
        go_roundw
        case rel => exact ⟨j + 1, by omega, by go_num, by rw [← HTK.out], hb4⟩
        case measure => simp only [intOf]; omega
    · obtain rfl : j = ks.length := by omega
      go_wp2_with fail
      go_ret
      exact ⟨by rw [List.take_length]; rfl, hb⟩
theorem heldExprS_any : ∀ (N : Nat) (ks : List E), sizeL ks ≤ N → HdP ks := by
  intro N
  induction N with
  | zero =>
    intro ks hN
    cases ks with
    | nil => exact heldExprS_of [] (fun e he => by cases he)
    | cons k ks => have := sizeE_pos k; have : sizeL (k :: ks) = sizeE k + sizeL ks := rfl; omega
  | succ N ih =>
    intro ks hN
    refine heldExprS_of ks fun e he => ih _ ?_
    have := sizeL_mem he
    rw [sizeE_kids] at this
    omega
end Go.Proofs.YtkhcfhhejmkikaaGreatDoor

namespace Go.Proofs.YtkhcfhhejmkikaaGreatDoor
open Go.RowKit
set_option maxRecDepth 100000

set_option maxHeartbeats 2000000 in
theorem markExpr_any (e : E) (A : Option Addr) (cap : Nat) (w : World) (base : Nat) (S : Nat → Prop) (k : Nat) (hP : PdD w S e.kids A) (hbase : base ≤ w.heap.size) (hS : ∀ c, S c → base ≤ c ∧ c < w.heap.size ∧ Flat w c) (hk0 : 0 < k) (hk1 : k + 3 * sizeL e.kids ≤ 900000) :
    Calls Tryz.prog 12 #[exV e A cap, .int .i64 (k : Int)] w (MkRet base S e.kids A k w) := by
  unfold exV
  have hal := (Below.refl w.heap.size w).alloc (Nat.le_refl _) (.cells #[.int .i64 e.op, .int .i64 e.n, .string e.name, .slice A e.kids.length cap] 24)
  have M := Lib.hid (markExprS_any _ e.kids (Nat.le_refl _) A cap (w.alloc (.cells #[.int .i64 e.op, .int .i64 e.n, .string e.name, .slice A e.kids.length cap] 24)) base S k
    (hP.keep (fun b o h => hal.cell (p := ⟨b, o, none⟩) (hS b h).2.1) (fun _ h => h)) (Nat.le_trans hbase hal.size) (fun c hc => ⟨(hS c hc).1, Nat.lt_of_lt_of_le (hS c hc).2.1 hal.size, (hS c hc).2.2.below hal (hS c hc).2.1⟩) hk0 hk1)
  have HU := Lib.hid (Upd.of_below (S := S) hal hbase)
  clear hP hS hal
  go_enter Tryz.func12, Tryz.ntmps12
  go_wp2_with fail
  (with_reducible refine Calls.mono M.out ?_)
  rintro ee w1 ⟨rfl, h1, h2, h3⟩
  have H1 := Lib.hid h1
  have H2 := Lib.hid h2
  have H3 := Lib.hid h3
  clear h1 h2 h3 M
  go_wp2_with fail
  go_ret
  exact ⟨rfl, H1.out, HU.out.trans H2.out, H3.out⟩
set_option maxHeartbeats 2000000 in
theorem heldExpr_any (op z : Int) (nm : ByteArray) (ks : List E) (A : Option Addr) (cap : Nat) (w : World) (k : Nat) (hR : RdS w w.heap.size (mkL ks k) A) (hk0 : 0 < k) (hk1 : k + 3 * sizeL ks ≤ 900000) :
    Calls Tryz.prog 13 #[.agg #[.int .i64 op, .int .i64 z, .string nm, .slice A ks.length cap], .int .i64 (k : Int)] w (fun ee w' => ee = .returned (.int .i64 ((k + 3 * sizeL ks : Nat) : Int)) ∧ Below w.heap.size w w') := by
  have hal := (Below.refl w.heap.size w).alloc (Nat.le_refl _) (.cells #[.int .i64 op, .int .i64 z, .string nm, .slice A ks.length cap] 24)
  have M := Lib.hid (heldExprS_any _ ks (Nat.le_refl _) A cap (w.alloc (.cells #[.int .i64 op, .int .i64 z, .string nm, .slice A ks.length cap] 24)) k (hR.on hal hal.size) hk0 hk1)
  have hpos : (0 : Int) ≤ ((k + 3 * sizeL ks : Nat) : Int) := Int.natCast_nonneg _
  clear hR
  generalize k + 3 * sizeL ks = kq at *
  go_enter Tryz.func13, Tryz.ntmps13
  go_wp2_with fail
  (with_reducible refine Calls.mono M.out ?_)
  rintro ee w1 ⟨rfl, h1⟩
  have hb := hal.trans (h1.mono hal.size)
  clear h1 M hal
  go_wp2_with fail
  go_ret
  exact ⟨rfl, hb⟩
theorem readF_bulk (s : ByteArray) : bulkE (readF s).1 ≤ 3600 := by
  have hlen := cutRes_len s
  cases hcr : cutRes s with
  | mk ws ok =>
  rw [hcr] at hlen
  have hlen' : ws.length ≤ 600 := hlen
  have hn : bulkE E.none ≤ 3600 := by decide
  cases ok
  · rw [readF_no hcr]; exact hn
  · rw [readF_ok hcr]
    rcases readW_cases ws with ⟨_, h2⟩ | ⟨e, r, h1, h2⟩
    · rw [h2]; exact hn
    · rw [h2]
      have := ((rd_bulk nmB 6100).L 1 ws e r (words_four hcr) h1).2
      split
      · show bulkE e ≤ 3600
        omega
      · exact hn
set_option maxHeartbeats 8000000 in
theorem fnExactReadExpr_walk (s : ByteArray) (w : World) (hs : s.size ≤ maxLen) (T : Tabs w) (N : NTabs w) (S : Sgn w) :
    Calls Tryz.prog 3 #[.string s] w fun ee w' => ee = .returned (.bool true) ∧ Below w.heap.size w w' := by
  unfold maxLen at hs
  by_cases hl : 1048576 < s.size
  · clear T N S
    go_enter Tryz.func3, Tryz.ntmps3
    go_wp2
    go_ret
    exact ⟨rfl, Below.refl _ _⟩
  have hbk := readF_bulk s
  have SP := Lib.hid (specReadExpr_any s w (by omega))
  have IM := fun W (h : Below w.heap.size w W) => Lib.hid (implReadExpr_any s W (by omega) (T.below h) (N.below h) (S.below h))
  clear T N S
  generalize readF s = p at *
  obtain ⟨x, ok⟩ := p
  dsimp only at hbk
  have hsz : 1 + 3 * sizeL x.kids ≤ 20000 := by
    have h1 := sizeE_bulk x
    have h2 := sizeE_kids x
    omega
  have EQ := fun A c A' c' W h1 h2 => eqExpr_self x (by omega) A c A' c' W h1 h2
  unfold exV at EQ
  have EQ := fun A c A' c' W h1 h2 => Lib.hid (EQ A c A' c' W h1 h2)
  clear hbk
  go_enter Tryz.func3, Tryz.ntmps3
  go_wp2_with fail
  (with_reducible refine Calls.mono SP.out ?_)
  rintro ee w1 ⟨A1, c1, rfl, hp1, hb1⟩
  unfold exV
  have hal1 := (Below.refl w1.heap.size w1).alloc (Nat.le_refl _) (.cells #[.int .i64 x.op, .int .i64 x.n, .string x.name, .slice A1 x.kids.length c1] 24)
  have X1 := Lib.hid (Bx4.new w1 (.int .i64 x.op) (.int .i64 x.n) (.string x.name) (.slice A1 x.kids.length c1) 24)
  have hz2 : (w1.alloc (.cells #[.int .i64 x.op, .int .i64 x.n, .string x.name, .slice A1 x.kids.length c1] 24)).heap.size = w1.heap.size + 1 := World.size_alloc _ _
  have hb2 := hb1.trans (hal1.mono hb1.size)
  have hw2 := hb2.size
  have HP2 := Lib.hid (PdS.later hp1 hal1 (Nat.le_refl _) hal1.size)
  clear hp1 hal1 SP hb1
  go_upto_region 4 with (fail)
  generalize w1.alloc (.cells #[.int .i64 x.op, .int .i64 x.n, .string x.name, .slice A1 x.kids.length c1] 24) = w2 at *
  have IM2 := Lib.hid (IM w2 hb2).out
  go_wp2_with fail
  (with_reducible refine Calls.mono IM2.out ?_)
  rintro ee w3 ⟨A3, c3, rfl, hp3, hb3⟩
  unfold exV
  have hs3 := hb3.size
  have hal3 := (Below.refl w3.heap.size w3).alloc (Nat.le_refl _) (.cells #[.int .i64 x.op, .int .i64 x.n, .string x.name, .slice A3 x.kids.length c3] 24)
  have Y3 := Lib.hid (Bx4.new w3 (.int .i64 x.op) (.int .i64 x.n) (.string x.name) (.slice A3 x.kids.length c3) 24)
  have hz4 : (w3.alloc (.cells #[.int .i64 x.op, .int .i64 x.n, .string x.name, .slice A3 x.kids.length c3] 24)).heap.size = w3.heap.size + 1 := World.size_alloc _ _
  have hb24 := hb3.trans (hal3.mono hs3)
  have hb4 := hb2.trans (hb24.mono hb2.size)
  have X4 := Lib.hid (X1.out.below hb24 (by omega))
  have HQ4 := Lib.hid (PdD.later hp3 hal3 (Nat.le_refl _) (Nat.le_refl _))
  have HP4 := Lib.hid (PdS.later (hi := w2.heap.size) HP2.out hb24 (Nat.le_refl _) (Nat.le_refl _))
  clear hp3 hal3 IM2 hb3 X1 HP2 hb2
  go_upto_region 5 with (fail)
  generalize w3.alloc (.cells #[.int .i64 x.op, .int .i64 x.n, .string x.name, .slice A3 x.kids.length c3] 24) = w4 at *
  obtain ⟨x0, x1, x2, x3⟩ := X4.out
  obtain ⟨y0, y1, y2, y3⟩ := Y3.out
  have q1 : (ok != ok) = false := by simp
  have EQ4 := Lib.hid (EQ A3 c3 A1 c1 w4 (HQ4.out.rd (B := w4.heap.size) fun _ h => by have := h.2.1; omega) (HP4.out.rd (B := w4.heap.size) fun _ h => by have := h.2.1; omega)).out
  go_wp2_with fail
  (with_reducible refine Calls.mono EQ4.out ?_)
  rintro ee w5 ⟨rfl, hb45⟩
  have hs5 := hb45.size
  have hb5 := hb4.trans (hb45.mono hb4.size)
  have X5 := Lib.hid (X4.out.below hb45 (by omega))
  have Y5 := Lib.hid (Y3.out.below hb45 (by omega))
  have HQ5 := Lib.hid (PdD.later (hi := w3.heap.size) HQ4.out (hb45.mono (by omega)) (Nat.le_refl _) (Nat.le_refl _))
  have HP5 := Lib.hid (PdS.later (hi := w2.heap.size) HP4.out (hb45.mono (by omega)) (Nat.le_refl _) (Nat.le_refl _))
  have MK := markExpr_any x A3 c3 w5 w2.heap.size (Between w5 w2.heap.size w3.heap.size) 1 HQ5.out (by omega) (fun c hc => ⟨hc.1, by have := hc.2.1; omega, hc.2.2⟩) (by omega) (by omega)
  have HD := fun W h => heldExpr_any x.op x.n x.name x.kids A3 c3 W 1 h (by omega) (by omega)
  have e1 : ((1 : Nat) : Int) = 1 := rfl
  unfold exV MkRet at MK
  rw [e1] at MK HD
  have MK := Lib.hid MK
  have HD := fun W h => Lib.hid (HD W h)
  clear e1 hsz
  have hpos : (0 : Int) ≤ ((1 + 3 * sizeL x.kids : Nat) : Int) := Int.natCast_nonneg _
  generalize 1 + 3 * sizeL x.kids = m at *
  have q2 : ((m : Int) != (m : Int)) = false := by simp
  clear x0 x1 x2 x3 y0 y1 y2 y3 EQ4 hb45 hb4 X4 Y3 HQ4 HP4 hb24 HQ5
  obtain ⟨y0, y1, y2, y3⟩ := Y5.out
  go_wp2_with fail
  (with_reducible refine Calls.mono MK.out ?_)
  rintro ee w6 ⟨rfl, hm6, hu6, hf6⟩
  have hs6 := hu6.below.size
  have hb6 := hb5.trans (hu6.below.mono (by omega))
  have X6 := Lib.hid (X5.out.below hu6.below (by omega))
  have hsame : w6.heap[w3.heap.size]? = w5.heap[w3.heap.size]? := hu6.same w3.heap.size (by omega) (fun h => by have := h.2.1; omega)
  have Y6 := Lib.hid (show Bx4 w6 w3.heap.size (.int .i64 x.op) (.int .i64 x.n) (.string x.name) (.slice A3 x.kids.length c3) from ⟨(World.cell?_of_block hsame).trans y0, (World.cell?_of_block hsame).trans y1, (World.cell?_of_block hsame).trans y2, (World.cell?_of_block hsame).trans y3⟩)
  have HP6 := Lib.hid (PdS.later (hi := w2.heap.size) HP5.out hu6.below (Nat.le_refl _) (Nat.le_refl _))
  have HM6 := Lib.hid (show RdS w6 w6.heap.size (mkL x.kids 1) A3 from hm6.rd (fun _ h => by have := h.2.1; omega))
  clear hm6 hu6 hf6 hsame MK y0 y1 y2 y3 X5 Y5 HP5 hb5
  obtain ⟨y0, y1, y2, y3⟩ := Y6.out
  go_wp2_with fail
  (with_reducible refine Calls.mono (HD w6 HM6.out).out ?_)
  rintro ee w7 ⟨rfl, hb67⟩
  have hs7 := hb67.size
  have hb7 := hb6.trans (hb67.mono hb6.size)
  have X7 := Lib.hid (X6.out.below hb67 (by omega))
  have Y7 := Lib.hid (Y6.out.below hb67 (by omega))
  have HP7 := Lib.hid (PdS.later (hi := w2.heap.size) HP6.out (hb67.mono (by omega)) (Nat.le_refl _) (Nat.le_refl _))
  have HM7 := Lib.hid (HM6.out.on hb67 hb67.size)
  have IM7 := Lib.hid (IM w7 hb7).out
  clear hb67 y0 y1 y2 y3 X6 Y6 HP6 HM6 hb6 IM
  go_wp2_with fail
  (with_reducible refine Calls.mono IM7.out ?_)
  rintro ee w8 ⟨A8, c8, rfl, hp8, hb8⟩
  unfold exV
  have hs8 := hb8.size
  have hal8 := (Below.refl w8.heap.size w8).alloc (Nat.le_refl _) (.cells #[.int .i64 x.op, .int .i64 x.n, .string x.name, .slice A8 x.kids.length c8] 24)
  have Z8 := Lib.hid (Bx4.new w8 (.int .i64 x.op) (.int .i64 x.n) (.string x.name) (.slice A8 x.kids.length c8) 24)
  have hz9 : (w8.alloc (.cells #[.int .i64 x.op, .int .i64 x.n, .string x.name, .slice A8 x.kids.length c8] 24)).heap.size = w8.heap.size + 1 := World.size_alloc _ _
  have hb79 := hb8.trans (hal8.mono hs8)
  have hb9 := hb7.trans (hb79.mono hb7.size)
  have X9 := Lib.hid (X7.out.below hb79 (by omega))
  have Y9 := Lib.hid (Y7.out.below hb79 (by omega))
  have HQ9 := Lib.hid (PdD.later hp8 hal8 (Nat.le_refl _) hal8.size)
  have HP9 := Lib.hid (PdS.later (hi := w2.heap.size) HP7.out (hb79.mono (by omega)) (Nat.le_refl _) (Nat.le_refl _))
  have HM9 := Lib.hid (HM7.out.on hb79 hb79.size)
  clear hp8 hal8 IM7 hb8 X7 Y7 HP7 HM7 hb7 hb79
  go_upto_region 16 with (fail)
  generalize w8.alloc (.cells #[.int .i64 x.op, .int .i64 x.n, .string x.name, .slice A8 x.kids.length c8] 24) = w9 at *
  obtain ⟨x0, x1, x2, x3⟩ := X9.out
  obtain ⟨z0, z1, z2, z3⟩ := Z8.out
  have EQ9 := Lib.hid (EQ A8 c8 A1 c1 w9 (HQ9.out.rd (B := w9.heap.size) fun _ h => h.2.1) (HP9.out.rd (B := w9.heap.size) fun _ h => by have := h.2.1; omega)).out
  go_wp2_with fail
  (with_reducible refine Calls.mono EQ9.out ?_)
  rintro ee w10 ⟨rfl, hb910⟩
  have Y10 := Y9.out.below hb910 (by omega)
  have HM10 := Lib.hid (HM9.out.on hb910 hb910.size)
  have hb10 := hb9.trans (hb910.mono hb9.size)
  clear hb910 x0 x1 x2 x3 z0 z1 z2 z3 X9 Y9 Z8 HQ9 HP9 HM9 EQ9 EQ hb9
  obtain ⟨y0, y1, y2, y3⟩ := Y10
  go_wp2_with fail
  (with_reducible refine Calls.mono (HD w10 HM10.out).out ?_)
  rintro ee w11 ⟨rfl, hb1011⟩
  have hb11 := hb10.trans (hb1011.mono hb10.size)
  clear hb1011
  go_wp2_with fail
  go_ret
  exact ⟨rfl, hb11⟩
end Go.Proofs.YtkhcfhhejmkikaaGreatDoor

namespace Go.Proofs.YtkhcfhhejmkikaaGreatDoor
open Go.ChangeShapes Go.WideShapes Go.ChangeAt Go.RowKit Go.WideMaps

theorem law_args {H : Type} {enc : TypeId × Value → H} {P : Program} (hl : laidOutB P = true) {W W' : World} (hb : Below W.heap.size W W') (sp' : Nat → Bool) :
    ∀ {ts : List TypeId} {vs : List Value} {ds : List (DataW H)} {ps : List MemPlace}, (ts.all fun t => P.readableRec t && decide (t < P.types.size)) = true →
      DataW.TrodAll enc P W 0 (fun _ => true) true ts vs ds ps → (∀ p ∈ ps, p.block < W.heap.size) → (∀ p ∈ ps, sp' p.block = true) → DataW.TrodAll enc P W' 0 sp' true ts vs ds ps := by
  intro ts
  induction ts with
  | nil =>
    intro vs ds ps _ h _ _
    match vs, ds, h with
    | [], [], h => exact h
  | cons t ts ih =>
    intro vs ds ps hr h hlt hs
    match vs, ds, h with
    | v :: vs, d :: ds, ⟨p, q, h1, h2, e⟩ =>
      subst e
      simp only [List.all_cons, Bool.and_eq_true, decide_eq_true_eq] at hr
      refine ⟨p, q, ?_, ih hr.2 h2 (fun x hx => hlt x (List.mem_append_right _ hx)) (fun x hx => hs x (List.mem_append_right _ hx)), rfl⟩
      exact WideElems.Trod_stays hl hr.1.1 hr.1.2 h1 (fun x hx => hb.same (hlt x (List.mem_append_left _ hx))) (fun x hx => hs x (List.mem_append_left _ hx))

/-- The types of the variables can be read. -/
def varsFit (P : Program) (ns : List String) : Bool := ns.all fun n => match (P.globalNamed n).bind (fun g => P.globals[g]?) with
  | some x => P.readableRec x.type && decide (x.type < P.types.size)
  | none => false

theorem law_vars {H : Type} {enc : TypeId × Value → H} {P : Program} (hl : laidOutB P = true) {W W' : World} (hb : Below W.heap.size W W') (sp' : Nat → Bool) :
    ∀ {ns : List String} {gs : List (DataW H)} {ps : List MemPlace}, varsFit P ns = true →
      DataW.TrodVars enc P W (fun _ => true) ns gs ps → (∀ p ∈ ps, p.block < W.heap.size) → (∀ p ∈ ps, sp' p.block = true) → DataW.TrodVars enc P W' sp' ns gs ps := by
  intro ns
  induction ns with
  | nil =>
    intro gs ps _ h _ _
    match gs, h with
    | [], h => exact h
  | cons n ns ih =>
    intro gs ps hr h hlt hs
    match gs, h with
    | d :: gs, ⟨g, t, cs, fuel, p, q, h1, h2, h3, h4, h5, e⟩ =>
      subst e
      unfold varsFit at hr
      simp only [List.all_cons, Bool.and_eq_true] at hr
      have hv : ∃ x, P.globals[g]? = some x ∧ x.type = t := by
        cases hx : P.globals[g]? with
        | none => rw [hx] at h2; cases h2
        | some x => rw [hx] at h2; exact ⟨x, rfl, Option.some.inj h2⟩
      obtain ⟨x, hx, rfl⟩ := hv
      have hr1 := hr.1
      rw [h1, Option.bind_some, hx] at hr1
      simp only [Bool.and_eq_true, decide_eq_true_eq] at hr1
      have hg : g < W.heap.size := by
        unfold World.var? at h3
        simp only [h1, Option.bind_some] at h3
        by_cases hlt' : g < W.heap.size
        · exact hlt'
        · rw [Array.getElem?_eq_none (by omega)] at h3; cases h3
      have hp : ∀ x ∈ p, x ∈ MemPlace.row ⟨g, 0, none⟩ cs.size ++ p ++ q := fun x hx => List.mem_append_left _ (List.mem_append_right _ hx)
      have hq : ∀ x ∈ q, x ∈ MemPlace.row ⟨g, 0, none⟩ cs.size ++ p ++ q := fun x hx => List.mem_append_right _ hx
      refine ⟨g, _, cs, fuel, p, q, h1, h2, var?_below hb h1 hg h3, ?_, ih hr.2 h5 (fun x hx => hlt x (hq x hx)) (fun x hx => hs x (hq x hx)), rfl⟩
      exact DataW.trod_stays (kids_book hl hr1.1) (book_sized hr1.1) (fun h => by cases h) ⟨hr1.2, book_self _⟩ h4 (fun x hx => hb.same (hlt x (hp x hx))) (fun x hx => hs x (hp x hx))

/-- The law's last step. -/
theorem law_post {H : Type} {enc : TypeId × Value → H} {P : Program} {f : Func} {s : ChangeSpec} {apart fresh handsOn again : Bool} {W W' : World} {args : Array Value} {ds gs : List (DataW H)} {before : List MemPlace} {tb : TypeId}
    (hl : laidOutB P = true) (hr : (f.params.toList.all fun t => P.readableRec t && decide (t < P.types.size)) = true) (hv : varsFit P s.vars = true)
    (hres : f.resultTypes = #[tb]) (htb : P.underlying tb = some .bool) (hfn : s.fn H (ds ++ gs) = { results := [.lit (.bool true)], args := ds, vars := gs })
    (hW : DataW.Whole enc P f.params.toList s.vars apart W args.toList ds gs before) (hb : Below W.heap.size W W') :
    s.post enc P f apart fresh handsOn again W args (.bool true) W' := by
  have hWhole := hW
  obtain ⟨pa, pv, hA, hV, rfl, hz, hn⟩ := hW
  have hlt : ∀ p ∈ pa ++ pv, p.block < W.heap.size := fun p hp => hWhole.lt p hp
  have ha : ∀ p ∈ pa, p.block < W.heap.size := fun p hp => hlt p (List.mem_append_left _ hp)
  have hvv : ∀ p ∈ pv, p.block < W.heap.size := fun p hp => hlt p (List.mem_append_right _ hp)
  have R : ∀ (b : Nat) (sp : Nat → Bool) (hd : Bool), DataW.TrodAll enc P W' b sp hd f.resultTypes.toList ((Value.bool true).resultList f.resultTypes.size) (s.fn H (ds ++ gs)).results [] := by
    intro b sp hd
    rw [hres, hfn]
    exact trodAll_mk1 (shut_bool htb _)
  have hok : ∀ (j : Nat) (t : TypeId) (r : Value), f.resultTypes[j]? = some t → ((Value.bool true).resultList f.resultTypes.size)[j]? = some r → Value.okWide P W' .any 0 t r := ok_one hres rfl (okWide_bool_mk htb _)
  refine ⟨ds, gs, pa ++ pv, [], pa, pv, hWhole, R _ _ _, ?_, ?_, World.keptBut_mono (fun p hp => ⟨hp, ?_⟩) (hb.frame (· ∈ pa ++ pv)), fun _ => ?_⟩
  · rw [hfn]; exact law_args hl hb _ hr hA ha (fun p hp => by simpa using ha p hp)
  · rw [hfn]; exact law_vars hl hb _ hv hV hvv (fun p hp => by simpa using hvv p hp)
  · rcases List.mem_append.1 hp with h | h
    · exact Or.inr (Or.inl h)
    · exact Or.inr (Or.inr h)
  · have A' := law_args (enc := enc) hl hb (fun _ => true) hr hA ha (fun _ _ => rfl)
    have V' := law_vars (enc := enc) hl hb (fun _ => true) hv hV hvv (fun _ _ => rfl)
    have R' := R 0 (fun _ => true) true
    rw [hfn] at R'
    refine ⟨hok, _, _, ([] ++ pa) ++ pv, ⟨[] ++ pa, pv, trodAll_append A' R', V', rfl, ?_, ?_⟩, ?_⟩
    · intro b off hp
      have hin : MemPlace.cell b off ∈ pa ++ pv := by simpa using hp
      rw [hb.frozen (hlt _ hin)]
      exact hz b off hin
    · intro ha
      have := hn ha
      simpa using this
    · intro p hp _
      simpa using hp

/-- What a listed variable reads as. -/
theorem laid_get {P : Program} {W : World} : ∀ {l : List (String × DataW Unit)} {ps : List MemPlace}, DataW.LaidVars P W l ps → ∀ {n : String} {d : DataW Unit}, (n, d) ∈ l →
    ∃ g t cs fuel p, P.globalNamed n = some g ∧ (P.globals[g]?).map (·.type) = some t ∧ W.var? P n = some cs ∧ DataW.trod (fun _ => ()) P W 0 (fun _ => true) false fuel t cs.toList = some (d, p)
  | [], _, _, _, _, h => by cases h
  | (_, _) :: _, _, ⟨g, t, cs, fuel, p, q, h1, h2, h3, h4, h5, _⟩, n, d, h => by
    rcases List.mem_cons.1 h with e | h
    · cases e
      exact ⟨g, t, cs, fuel, p, h1, h2, h3, h4⟩
    · exact laid_get h5 h

/-- A table of strings as a row lists it. -/
def strData {H : Type} (l : List (List UInt8)) : DataW H := .agg (l.map fun z => .lit (.string z))

theorem cells_of_strs {H : Type} {enc : TypeId × Value → H} {P : Program} {w : World} {base : Nat} {sp : Nat → Bool} {held : Bool} {fuel : Nat} {t e : TypeId} {n : Nat} {cs : List Value} {zs : List (List UInt8)} {p : List MemPlace}
    (ht : P.underlying t = some (.array n e)) (he : P.underlying e = some .string) (hce : P.cellsOf e = 1) (hct : P.cellsOf t = n)
    (h : DataW.trod enc P w base sp held fuel t cs = some (strData zs, p)) : cs = zs.map fun z => Value.string ⟨z.toArray⟩ := by
  obtain ⟨xs, m, rfl, hx, hlen, hxl, hel⟩ := DataW.trod_array ht h
  have hxs : xs.map (·.1) = zs.map fun z => (DataW.lit (.string z) : DataW H) := by
    have := congrArg Prod.fst hx
    simpa [strData] using this.symm
  have hzl : zs.length = n := by
    have := congrArg List.length hxs
    simp at this
    omega
  apply List.ext_getElem?
  intro i
  by_cases hi : i < n
  · have hf := hel i hi
    rw [hce, Nat.mul_one] at hf
    obtain ⟨b, hb⟩ : ∃ b, xs[i]? = some b := ⟨xs[i], List.getElem?_eq_getElem (by omega)⟩
    rw [hb] at hf
    obtain ⟨z, hc, rfl, _⟩ := DataW.trod_string he hf
    have h1 : cs[i]? = some (.string z) := by
      have := congrArg (·[0]?) hc
      simpa [List.getElem?_take, List.getElem?_drop] using this
    have h2 : (xs.map (·.1))[i]? = some (DataW.lit (.string z.data.toList) : DataW H) := by simp [hb]
    rw [hxs] at h2
    simp only [List.getElem?_map, Option.map_eq_some_iff, DataW.lit.injEq, Lit.string.injEq] at h2
    obtain ⟨z', hz', rfl⟩ := h2
    simp [h1, hz']
  · rw [List.getElem?_eq_none (by omega), List.getElem?_eq_none (by simp; omega)]
end Go.Proofs.YtkhcfhhejmkikaaGreatDoor

namespace Go.Proofs.YtkhcfhhejmkikaaGreatDoor
open Go.ChangeShapes Go.WideShapes Go.ChangeAt Go.RowKit Go.WideMaps
set_option maxRecDepth 100000

theorem laidOut : laidOutB Tryz.prog = true := by kernel_rfl
theorem ownNone : ownKnob Tryz.prog.godebug = none := by kernel_rfl
theorem byteKinds_data : (Rows.laid_loop_example_wholeway_impl_byteKinds : DataW Unit) = Lib.tabData .i64 kt := by kernel_rfl
theorem keyTable_data : (Rows.laid_loop_example_wholeway_impl_keyTable : DataW Unit) = strData keyL := by kernel_rfl

/-- Both tables are listed: the walks have them. -/
theorem tabs_of_laid {W : World} {l : List (String × DataW Unit)} (h : laidMet Tryz.prog l W)
    (h1 : ("loop.example/wholeway/impl.byteKinds", Rows.laid_loop_example_wholeway_impl_byteKinds) ∈ l) (h2 : ("loop.example/wholeway/impl.keyTable", Rows.laid_loop_example_wholeway_impl_keyTable) ∈ l) : Tabs W := by
  obtain ⟨ps, hv, _, _⟩ := h
  obtain ⟨g1, t1, cs1, f1, p1, hg1, ht1, hv1, hd1⟩ := laid_get hv h1
  obtain ⟨g2, t2, cs2, f2, p2, hg2, ht2, hv2, hd2⟩ := laid_get hv h2
  obtain rfl := Option.some.inj ((show Tryz.prog.globalNamed "loop.example/wholeway/impl.byteKinds" = some 1 by kernel_rfl).symm.trans hg1)
  obtain rfl := Option.some.inj ((show Tryz.prog.globalNamed "loop.example/wholeway/impl.keyTable" = some 2 by kernel_rfl).symm.trans hg2)
  obtain rfl := Option.some.inj ((show (Tryz.prog.globals[1]?).map (·.type) = some 146 by kernel_rfl).symm.trans ht1)
  obtain rfl := Option.some.inj ((show (Tryz.prog.globals[2]?).map (·.type) = some 147 by kernel_rfl).symm.trans ht2)
  rw [byteKinds_data] at hd1
  rw [keyTable_data] at hd2
  have e1 := Lib.cells_of_tab Tryz.underlying146 Tryz.underlying3 (by kernel_rfl) (by kernel_rfl) hd1
  have e2 := cells_of_strs Tryz.underlying147 Tryz.underlying9 (by kernel_rfl) (by kernel_rfl) hd2
  have b2 : ∃ t fr, W.heap[2]? = some (.cells cs2 t fr) := by
    unfold World.var? at hv2
    simp only [hg2, Option.bind_some] at hv2
    split at hv2
    · rename_i c t fr hc
      cases hv2
      exact ⟨t, fr, hc⟩
    · cases hv2
  obtain ⟨t, fr, hb⟩ := b2
  have hsz : 1 < W.heap.size := by
    unfold World.var? at hv1
    simp only [hg1, Option.bind_some] at hv1
    by_cases hlt : 1 < W.heap.size
    · exact hlt
    · rw [Array.getElem?_eq_none (by omega)] at hv1; cases hv1
  have hsz2 : 2 < W.heap.size := (Array.getElem?_eq_some_iff.1 hb).1
  refine ⟨fun i hi => ?_, ⟨hsz, hsz2⟩, t, fr, ?_⟩
  · rw [World.var?_cell hg1 hv1 i, ← Array.getElem?_toList, e1]
    rw [List.getElem?_map, List.getD_eq_getElem?_getD, List.getElem?_eq_getElem (show i < kt.length from hi)]
    rfl
  · have : cs2 = (keyL.map fun k => Value.string ⟨k.toArray⟩).toArray := by rw [← e2]
    rw [hb, this]
end Go.Proofs.YtkhcfhhejmkikaaGreatDoor

namespace Go.Proofs.YtkhcfhhejmkikaaGreatDoor
open Go.ChangeShapes Go.WideShapes Go.ChangeAt Go.RowKit Go.WideMaps
set_option maxRecDepth 100000

theorem pow10_data : (Rows.laid_internal_strconv_uint64pow10 : DataW Unit) = Lib.tabData .u64 Lib.pow10Tab := by kernel_rfl

theorem sentinel_cell {W : World} {l : List (String × DataW Unit)} {n nm : String} {d : DataW Unit} {g : Nat} (h : laidMet Tryz.prog l W) (hm : (n, .iface nm d) ∈ l)
    (hg : Tryz.prog.globalNamed n = some g) (ht : (Tryz.prog.globals[g]?).map (·.type) = some 137) : ∃ tp p, W.cell? ⟨g, 0, none⟩ = some (.iface tp p) := by
  obtain ⟨ps, hv, _, _⟩ := h
  obtain ⟨g1, t1, cs1, f1, p1, hg1, ht1, hv1, hd1⟩ := laid_get hv hm
  obtain rfl := Option.some.inj (hg.symm.trans hg1)
  obtain rfl := Option.some.inj (ht.symm.trans ht1)
  obtain ⟨f', u, v, hcs, _, _⟩ := iface_of_trod Tryz.underlying137 hd1
  refine ⟨u, v, ?_⟩
  rw [World.var?_cell hg1 hv1 0, ← Array.getElem?_toList, hcs]
  rfl

theorem ntabs_of_laid {W : World} {l : List (String × DataW Unit)} (h : laidMet Tryz.prog l W)
    (h1 : ("internal/strconv.uint64pow10", Rows.laid_internal_strconv_uint64pow10) ∈ l) (h2 : ("strconv.ErrRange", Rows.laid_strconv_ErrRange) ∈ l) (h3 : ("strconv.ErrSyntax", Rows.laid_strconv_ErrSyntax) ∈ l)
    (h4 : ("math/bits.deBruijn64tab", Rows.laid_math_bits_deBruijn64tab) ∈ l) : NTabs W := by
  have hs := sentinel_cell h h3 (show _ = some 5 by kernel_rfl) (by kernel_rfl)
  have hr := sentinel_cell h h2 (show _ = some 6 by kernel_rfl) (by kernel_rfl)
  obtain ⟨ps, hv, _, _⟩ := h
  obtain ⟨g1, t1, cs1, f1, p1, hg1, ht1, hv1, hd1⟩ := laid_get hv h1
  obtain ⟨g4, t4, cs4, f4, p4, hg4, ht4, hv4, hd4⟩ := laid_get hv h4
  obtain rfl := Option.some.inj ((show Tryz.prog.globalNamed "internal/strconv.uint64pow10" = some 4 by kernel_rfl).symm.trans hg1)
  obtain rfl := Option.some.inj ((show Tryz.prog.globalNamed "math/bits.deBruijn64tab" = some 8 by kernel_rfl).symm.trans hg4)
  obtain rfl := Option.some.inj ((show (Tryz.prog.globals[4]?).map (·.type) = some 169 by kernel_rfl).symm.trans ht1)
  rw [pow10_data] at hd1
  have e1 := Lib.cells_of_tab Tryz.underlying169 Tryz.underlying157 (by kernel_rfl) (by kernel_rfl) hd1
  have hsz : 8 < W.heap.size := by
    unfold World.var? at hv4
    simp only [hg4, Option.bind_some] at hv4
    by_cases hlt : 8 < W.heap.size
    · exact hlt
    · rw [Array.getElem?_eq_none (by omega)] at hv4; cases hv4
  refine ⟨hs, hr, ?_, by omega⟩
  unfold Lib.TabIs
  rw [hv1, ← e1]
end Go.Proofs.YtkhcfhhejmkikaaGreatDoor

namespace Go.Proofs.YtkhcfhhejmkikaaGreatDoor
open Go.ChangeShapes Go.WideShapes Go.ChangeAt Go.RowKit Go.WideMaps Go.Deep
set_option maxRecDepth 100000

theorem flat_chunks : ∀ (rows : List (List Value)) (cs : List Value), cs.length = rows.length * 3 → (∀ i r, rows[i]? = some r → (cs.drop (i * 3)).take 3 = r) → cs = rows.flatten
  | [], cs, h, _ => by
    have : cs = [] := List.length_eq_zero_iff.1 (by simpa using h)
    subst this; rfl
  | r :: rows, cs, h, hr => by
    have h0 := hr 0 r rfl
    rw [Nat.zero_mul, List.drop_zero] at h0
    have ih := flat_chunks rows (cs.drop 3) (by rw [List.length_drop, h, List.length_cons]; omega) (fun i r' h' => by
      have := hr (i + 1) r' (by simpa using h')
      rw [List.drop_drop]
      have e : 3 + i * 3 = (i + 1) * 3 := by omega
      rw [e]; exact this)
    rw [List.flatten_cons, ← ih, ← h0, List.take_append_drop]
section
variable {H : Type} {enc : TypeId × Value → H} {P : Program} {w : World} {base : Nat} {spare : Nat → Bool} {held : Bool}
theorem row3_trod {e : TypeId} {f0 f1 f2 : Field} {n : Nat} {cs : List Value} {a b : Int} {z : List UInt8} {p : List MemPlace} (he : P.underlying e = some (.struct #[f0, f1, f2])) (hone : oneCellFields P #[f0, f1, f2] = true) (hC : P.cellsOf e = 3)
    (hi : P.underlying f0.type = some (.int .i64)) (hs : P.underlying f1.type = some .string) (hj : P.underlying f2.type = some (.int .i64))
    (h : DataW.trod enc P w base spare held n e cs = some (.agg [.lit (.int .i64 a), .lit (.string z), .lit (.int .i64 b)], p)) : cs = [.int .i64 a, .string ⟨z.toArray⟩, .int .i64 b] := by
  obtain ⟨ys, n', _, hx, hl, hyl, hf⟩ := DataW.trod_struct he h
  rw [hC] at hl
  obtain ⟨o0, c0⟩ := hone_of hone 0 f0 rfl
  obtain ⟨o1, c1⟩ := hone_of hone 1 f1 rfl
  obtain ⟨o2, c2⟩ := hone_of hone 2 f2 rfl
  match cs, hl with
  | [u, v, t], _ =>
    match ys, hyl with
    | [y0, y1, y2], _ =>
      have h0 := hf 0 f0 rfl
      have h1 := hf 1 f1 rfl
      have h2 := hf 2 f2 rfl
      rw [o0, c0] at h0
      rw [o1, c1] at h1
      rw [o2, c2] at h2
      obtain ⟨k, e1, q1, _⟩ := DataW.trod_int hi (show DataW.trod enc P w base spare held n' f0.type [u] = some y0 from h0)
      obtain ⟨s, e2, q2, _⟩ := DataW.trod_string hs (show DataW.trod enc P w base spare held n' f1.type [v] = some y1 from h1)
      obtain ⟨m, e3, q3, _⟩ := DataW.trod_int hj (show DataW.trod enc P w base spare held n' f2.type [t] = some y2 from h2)
      injection e1 with e1 _
      injection e2 with e2 _
      injection e3 with e3 _
      subst e1; subst e2; subst e3; subst q1; subst q2; subst q3
      have := congrArg Prod.fst hx
      simp at this
      obtain ⟨r1, r2, r3⟩ := this
      subst r1; subst r2; subst r3
      rfl
theorem vars_len {ns : List String} : ∀ {gs : List (DataW H)} {ps : List MemPlace}, DataW.TrodVars enc P w spare ns gs ps → gs.length = ns.length := by
  induction ns with
  | nil => intro gs ps h; cases gs with
    | nil => rfl
    | cons _ _ => cases h
  | cons n ns ih => intro gs ps h; cases gs with
    | nil => cases h
    | cons d gs =>
      obtain ⟨_, _, _, _, _, _, _, _, _, _, h5, _⟩ := h
      rw [List.length_cons, ih h5]; rfl
theorem vars_three {a b c : String} {gs : List (DataW H)} {ps : List MemPlace} (h : DataW.TrodVars enc P w spare [a, b, c] gs ps) : ∃ x y z, gs = [x, y, z] := by
  match gs, vars_len h with
  | [x, y, z], _ => exact ⟨x, y, z, rfl⟩
theorem vars_one {a : String} {gs : List (DataW H)} {ps : List MemPlace} (h : DataW.TrodVars enc P w spare [a] gs ps) : ∃ x, gs = [x] := by
  match gs, vars_len h with
  | [x], _ => exact ⟨x, rfl⟩
def rowData {H : Type} (r : Int × List UInt8 × Int) : DataW H := .agg [.lit (.int .i64 r.1), .lit (.string r.2.1), .lit (.int .i64 r.2.2)]
def rowCells3 (r : Int × List UInt8 × Int) : List Value := [.int .i64 r.1, .string ⟨r.2.1.toArray⟩, .int .i64 r.2.2]
theorem cells_of_rows {t e : TypeId} {f0 f1 f2 : Field} {fuel m : Nat} {cs : List Value} {rows : List (Int × List UInt8 × Int)} {p : List MemPlace} (ht : P.underlying t = some (.array m e)) (he : P.underlying e = some (.struct #[f0, f1, f2])) (hone : oneCellFields P #[f0, f1, f2] = true) (hC : P.cellsOf e = 3) (hct : P.cellsOf t = m * 3)
    (hi : P.underlying f0.type = some (.int .i64)) (hs : P.underlying f1.type = some .string) (hj : P.underlying f2.type = some (.int .i64))
    (h : DataW.trod enc P w base spare held fuel t cs = some (.agg (rows.map rowData), p)) : cs = (rows.map rowCells3).flatten := by
  obtain ⟨xs, k, _, hx, hl, hxl, hel⟩ := DataW.trod_array ht h
  have hxs : xs.map (·.1) = rows.map (rowData (H := H)) := by
    have := congrArg Prod.fst hx
    simpa using this.symm
  have hrl : rows.length = m := by
    have := congrArg List.length hxs
    simp at this
    omega
  refine flat_chunks _ _ (by rw [hl, hct, List.length_map, hrl]) (fun i r hr => ?_)
  rw [List.getElem?_map, Option.map_eq_some_iff] at hr
  obtain ⟨row, hrow, rfl⟩ := hr
  have hi' : i < m := by rw [← hrl]; exact (List.getElem?_eq_some_iff.1 hrow).1
  have hf := hel i hi'
  rw [hC, List.getElem?_eq_getElem (by omega)] at hf
  have hd : (xs[i]'(by omega)).1 = rowData row := by
    have := congrArg (·[i]?) hxs
    simp only [List.getElem?_map] at this
    rw [List.getElem?_eq_getElem (by omega), hrow] at this
    simpa using this
  have hy : xs[i]'(by omega) = (rowData row, (xs[i]'(by omega)).2) := Prod.ext hd rfl
  rw [hy] at hf
  exact row3_trod he hone hC hi hs hj hf
end
def sgRows : List (Int × List UInt8 × Int) := [(3, [43], 3), (4, [45], 3), (5, [42], 4), (6, [47], 4), (7, [37], 4), (8, [60], 2), (9, [61], 2), (10, [38], 1), (11, [33], 5), (12, [64], 5)]
theorem signedOps_data : (Rows.laid_loop_example_wholeway_impl_signedOps : DataW Unit) = .agg (sgRows.map rowData) := by kernel_rfl
theorem sgRows_cells : (sgRows.map rowCells3).flatten = sgCells := by kernel_rfl
theorem sgn_of_laid {W : World} {l : List (String × DataW Unit)} (h : laidMet Tryz.prog l W) (h1 : ("loop.example/wholeway/impl.signedOps", Rows.laid_loop_example_wholeway_impl_signedOps) ∈ l) : Sgn W := by
  obtain ⟨ps, hv, _, _⟩ := h
  obtain ⟨g1, t1, cs1, f1, p1, hg1, ht1, hv1, hd1⟩ := laid_get hv h1
  obtain rfl := Option.some.inj ((show Tryz.prog.globalNamed "loop.example/wholeway/impl.signedOps" = some 0 by kernel_rfl).symm.trans hg1)
  obtain rfl := Option.some.inj ((show (Tryz.prog.globals[0]?).map (·.type) = some 141 by kernel_rfl).symm.trans ht1)
  rw [signedOps_data] at hd1
  have e1 := cells_of_rows Tryz.underlying141 Tryz.underlying98 (by kernel_rfl) (by kernel_rfl) (by kernel_rfl) Tryz.underlying3 Tryz.underlying9 Tryz.underlying3 hd1
  rw [sgRows_cells] at e1
  have b1 : ∃ t fr, W.heap[0]? = some (.cells cs1 t fr) := by
    unfold World.var? at hv1
    simp only [hg1, Option.bind_some] at hv1
    split at hv1
    · rename_i c t fr hc
      cases hv1
      exact ⟨t, fr, hc⟩
    · cases hv1
  obtain ⟨t, fr, hb⟩ := b1
  refine ⟨t, fr, ?_⟩
  have : cs1 = sgCells.toArray := by rw [← e1]
  rw [hb, this]
end Go.Proofs.YtkhcfhhejmkikaaGreatDoor

namespace Go.Proofs.YtkhcfhhejmkikaaGreatDoor
open Go.ChangeShapes Go.WideShapes Go.ChangeAt Go.RowKit Go.WideMaps
open Go.ChangeMaps (open_string)
set_option maxRecDepth 100000

namespace ExReadExpr
theorem plain : (Rows.fnExactReadExprRow.laid.all fun x => x.2.handleName?.isNone) = true := by kernel_rfl
/-- The door's own heap meets the condition: three closed facts. -/
theorem door_met (os : Os) (args : Array Value) : laidMetH Tryz.prog Rows.fnExactReadExprRow.laid ((World.doorLaid Tryz.prog 400 os).forCall (fun _ _ => 0) ⟨#[], args, []⟩).memory :=
  laidMetH_of_parts3 (fuel := 8) (laidMet_of_run' 8 (by kernel_rfl) (by kernel_rfl)) (by kernel_rfl) (by kernel_rfl)
theorem lifted (os : Os) (started : os.Started) (H : Type) (enc : TypeId × Value → H) :
    ReturnsInHanded {} Tryz.checked os 3 .any (fun w args => (Rows.fnExactReadExprSpec.pre enc Tryz.prog Tryz.f3 [] false w args ∧ laidMetH Tryz.prog Rows.fnExactReadExprRow.laid w) ∧ sizedMet enc Tryz.prog Tryz.f3 (OpenSpec.ofChange Rows.fnExactReadExprSpec) false w args)
      (Rows.fnExactReadExprSpec.post enc Tryz.prog Tryz.f3 false true false false) := by
  refine returnsInHanded_of_change_and (C := Tryz.checked) (X := fun w _ => laidMetH Tryz.prog Rows.fnExactReadExprRow.laid w) (fun _ _ _ hh h => h.of_heap hh) ownNone started (by kernel_rfl) Tryz.func3
    (ChangeSpec.witness_shaped (enc := enc) (C := Tryz.checked) (os := os) (X := fun w _ => laidMetH Tryz.prog Rows.fnExactReadExprRow.laid w) false (World.doorLaid Tryz.prog 400 os) #[.string ⟨#[]⟩] 8 rfl (World.shaped_of_RefB (by kernel_rfl) (by kernel_rfl)) (by kernel_rfl) (by kernel_rfl) (by kernel_rfl) (door_met os _)) ?_
  intro W base args ds gs before hval0 hW _ hsz hL0 _
  have hval : ∀ (j : Nat) t v, Tryz.f3.params[j]? = some t → args[j]? = some v → Value.okWide Tryz.prog W .any base t v := hval0
  have hL : laidMet Tryz.prog Rows.fnExactReadExprRow.laid W := by rw [← MakeChecks.laidMetH_plain _ _ _ plain]; exact hL0
  have hWhole := hW
  obtain ⟨p, q, hA0, hV, rfl, hfz, hnd⟩ := hW
  have hA : DataW.TrodAll enc Tryz.prog W 0 (fun _ => true) true Tryz.f3.params.toList args.toList ds p := hA0
  rw [Tryz.params3] at hA hval
  clear hA0 hval0 hL0
  obtain ⟨v0, d0, rfl, rfl, h0⟩ := trodAll_one hA
  obtain ⟨s, rfl, rfl, rfl, hs⟩ := open_string Tryz.underlying9 (hval 0 9 v0 rfl rfl) h0
  have N : NTabs W := ntabs_of_laid hL (by simp [Rows.fnExactReadExprRow]) (by simp [Rows.fnExactReadExprRow]) (by simp [Rows.fnExactReadExprRow]) (by simp [Rows.fnExactReadExprRow])
  have T : Tabs W := tabs_of_laid hL (by simp [Rows.fnExactReadExprRow]) (by simp [Rows.fnExactReadExprRow])
  have G : Sgn W := sgn_of_laid hL (by simp [Rows.fnExactReadExprRow])
  obtain ⟨g1, g2, g3, rfl⟩ : ∃ g1 g2 g3, gs = [g1, g2, g3] := vars_three hV
  refine (fnExactReadExpr_walk s W hs T N G).mono fun e W' ⟨he, hb⟩ => ⟨_, he, ?_⟩
  exact law_post laidOut (by kernel_rfl) (by kernel_rfl) (by kernel_rfl) Tryz.underlying4 rfl hWhole hb
theorem row_holds : Rows.FnExactReadExprSaid :=
  OpenClaim.holds_of_wide 3 Tryz.f3 rfl rfl rfl rfl rfl rfl rfl ⟨rfl, rfl, rfl, rfl, rfl⟩ rfl rfl rfl rfl rfl (by kernel_rfl) Tryz.func3 (by kernel_rfl)
    (of_decide_eq_true (by kernel_rfl)) (by unfold Func.isWrapper; first | (rw [if_pos (by decide +kernel)]; kernel_rfl) | (rw [if_neg (by decide +kernel)]; exact ⟨rfl, rfl⟩))
    (fun os started H enc _ => lifted os started H enc)
theorem holds : Rows.FnExactReadExprCardSaid :=
  Claim7.holds_tied_plain_at .later [] Rows.fnExactReadExprCard.laidKinds true Rows.fnExactReadExprCard.stood.harness Rows.fnExactReadExprCard.stood.looks
    row_holds (fun _ h => by cases h) (by kernel_rfl) (fun _ h => by cases h) fnExactReadExpr_row_tie rfl ⟨rfl, rfl⟩ (by kernel_rfl) rfl
    (fun f fn hf hfn => by
      obtain rfl : f = 3 := Option.some.inj ((show Tryz.prog.funcNamed Rows.fnExactReadExprRow.func = some 3 by kernel_rfl).symm.trans hf) |>.symm
      obtain rfl : fn = Tryz.f3 := (Option.some.inj (Tryz.func3.symm.trans hfn)).symm
      exact ⟨by kernel_rfl, fun j t ht => by
        have hall : (Tryz.f3.params.toList.all fun u => !Tryz.prog.wantsStandIn u) = true := by kernel_rfl
        exact (show Tryz.prog.wantsStandIn t = false by simpa using List.all_eq_true.1 hall t (by simpa using Array.mem_of_getElem? ht))⟩)
    (by kernel_rfl)
#print axioms holds
end ExReadExpr
end Go.Proofs.YtkhcfhhejmkikaaGreatDoor
