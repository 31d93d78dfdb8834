/-
  The blocks that lead to one: the model's.
-/
import Derived.Test.YtomhomnibikceaaDoorNK
namespace Go.Proofs.YtomhomnibikceaaDoor
open Go.RowKit
set_option maxRecDepth 100000

theorem ownN_empty (base : Nat) (w : World) (hb : base ≤ w.heap.size) : OwnN base (w.alloc (.cells #[] 3)) [] (.slice (some ⟨w.heap.size, 0, none⟩) 0 0) :=
  World.ownsRow_made w #[] 0 hb (Nat.zero_le _) rfl
set_option maxHeartbeats 4000000 in
theorem l7Preds_any (c : Cd) (A : Option Addr) (cap : Nat) (b : Int) (w : World) (hR : BkS w (Lt w.heap.size) c.blocks A) (hn : bulkCd c ≤ 1048576) :
    Calls Tryd.prog 66 #[cdv c A cap, .int .i64 b] w (PRet (predsL c b) w) := by
  have hln : c.blocks.length ≤ 1048576 := by have := length_le_bulkR bulkBk c.blocks; unfold bulkCd at hn; omega
  have HX := Lib.hid (show ∀ i, (h : i < c.blocks.length) → c.blocks[i].next.length ≤ 1048576 from fun i h => by
    have := bulkR_mem (f := bulkBk) (List.getElem_mem h)
    unfold bulkCd at hn
    have h2 : bulkBk c.blocks[i] = bulkR bulkPh c.blocks[i].phis + bulkR bulkIk c.blocks[i].ins + c.blocks[i].next.length := rfl
    omega)
  clear hn
  unfold predsL cdv
  obtain ⟨p, g, bs⟩ := c
  dsimp only at *
  have HR := Lib.hid hR
  clear hR
  obtain ⟨i0, hi, hz0, hz1, hz2⟩ := info_parts uintInfo
  have K0 := Lib.hid (BoxV.new w [.int .i64 p, .int .i64 g, .slice A bs.length cap] 44)
  have hb0 : Below w.heap.size w (w.alloc (.cells #[.int .i64 p, .int .i64 g, .slice A bs.length cap] 44)) := (Below.refl _ _).alloc (Nat.le_refl _) _
  have hl0 : w.heap.size < (w.alloc (.cells #[.int .i64 p, .int .i64 g, .slice A bs.length cap] 44)).heap.size := by rw [World.size_alloc]; omega
  go_enter Tryd.func66, Tryd.ntmps66
  go_wp2_with fail
  have e0 : w.alloc (.cells [.int .i64 p, .int .i64 g, .slice A bs.length cap].toArray 44) = w.alloc (.cells #[.int .i64 p, .int .i64 g, .slice A bs.length cap] 44) := rfl
  rw [e0] at K0
  clear e0
  have sz : (w.alloc (.cells #[.int .i64 p, .int .i64 g, .slice A bs.length cap] 44)).heap.size = w.heap.size + 1 := World.size_alloc _ _
  generalize w.alloc (.cells #[.int .i64 p, .int .i64 g, .slice A bs.length cap] 44) = wa at *
  have HE0 := Lib.hid (show OwnN wa.heap.size (wa.alloc (.cells #[] 3)) [] (.slice (some ⟨w.heap.size + 1, 0, none⟩) 0 0) by rw [← sz]; exact ownN_empty wa.heap.size wa (Nat.le_refl _))
  have hbe : Below wa.heap.size wa (wa.alloc (.cells #[] 3)) := (Below.refl _ _).alloc (Nat.le_refl _) _
  go_loopw [5, 6] (fun v i wr => ∃ (k : Nat) (l : List Int), k ≤ bs.length ∧ i = .int .i64 k ∧ l = predsTo bs b k ∧ OwnN wa.heap.size wr l v ∧ Below wa.heap.size wa wr) (fun _ i _ => bs.length - (intOf i).toNat)
  case atStart => exact ⟨0, [], Nat.zero_le _, rfl, rfl, HE0.out, hbe⟩
  case round =>
    clear HE0 hbe
    obtain ⟨k, l, hk, rfl, hl, hown, hb1⟩ := hrel
    have hll : l.length ≤ 1048576 := by have := predsTo_len bs b k; rw [← hl] at this; omega
    have HL := Lib.hid hl
    have HO := Lib.hid hown
    clear hl hown
    have hb := hb0.trans (hb1.mono (Nat.le_of_lt hl0))
    have hbs := hb.size
    have hbs1 := hb1.size
    have k2 := K0.out.below hb1 hl0 2 _ rfl
    by_cases hlt : k < bs.length
    · obtain ⟨bb, o, rfl, hB, ⟨A0, c0, d0, _⟩, ⟨A1, c1, d1, _⟩, d2, d3, A4, c4, d4, r4⟩ := (HR.out.on hb hbs).at_ hlt
      have hnx := HX.out k hlt
      have HY := Lib.hid (show b ∈ bs[k].next → predsTo bs b (k + 1) = l ++ [(k : Int)] from fun h => by rw [predsTo_yes hlt h, HL.out])
      have HN := Lib.hid (show ¬ b ∈ bs[k].next → l = predsTo bs b (k + 1) from fun h => by rw [predsTo_no hlt h, HL.out])
      clear HX d0 d1 d2 d3
      generalize bs[k].next = nx at *
      have HR4 := Lib.hid r4
      clear r4
      go_wp2_with fail
      go_loopw [5, 7] (fun v i u => ∃ (m : Nat), m ≤ nx.length ∧ i = .int .i64 m ∧ (∀ j, (h : j < nx.length) → j < m → nx[j] ≠ b) ∧ OwnN wa.heap.size u l v ∧ u = wr) (fun _ i _ => nx.length - (intOf i).toNat)
      case atStart => exact ⟨0, Nat.zero_le _, rfl, fun j _ hj => absurd hj (by omega), HO.out, rfl⟩
      case round =>
        clear HO
        obtain ⟨m, hm, rfl, hall, hown, rfl⟩ := hrel
        have HO := Lib.hid hown
        clear hown
        have HA := Lib.hid hall
        clear hall
        by_cases hlm : m < nx.length
        · obtain ⟨b4, o4, rfl, hB4, f0⟩ := HR4.out.at_ hlm
          have HM := Lib.hid (List.getElem_mem hlm)
          have HS := Lib.hid (show nx[m] ≠ b → ∀ j, (h : j < nx.length) → j < m + 1 → nx[j] ≠ b from fun h j hj hjk => by
            by_cases e : j = m
            · subst e; exact h
            · exact HA.out j hj (by omega))
          generalize nx[m] = r at *
          by_cases he : r = b
          · have q1 : (r == b) = true := beq_yes he
            have HY2 := Lib.hid (HY.out (by rw [← he]; exact HM.out))
            clear he HY HN HS HA
            have hb4 := hb1.alloc hbs1 (.cells #[.int .i64 (k : Int)] 3)
            have hbz : wa.heap.size ≤ (wr.alloc (.cells #[.int .i64 (k : Int)] 3)).heap.size := hb4.size
            have HNW := Lib.hid (new_int wr (k : Int) 3)
            have HTO := Lib.hid (int_one (k : Int))
            go_wp2_with (at_builtin; refine wpList_append_own _ rfl _ _ 48 rfl wa.heap.size 3 i0 (.int .i64 0) 1 8 Tryd.underlying48 hi hz0 hz1 hz2 rfl (by decide) _ l.length (iCs l) rfl (HO.out.alloc _) ⟨wr.heap.size, 0, none⟩ 1 1 [.int .i64 (k : Int)] rfl rfl HNW.out HTO.out (by unfold maxLen; omega) (by omega) hbz ?_; intro v' w3 hown3 hgrow3 _; have hb5 := hb4.grown hgrow3 hbz (fun j e => ((HO.out.alloc (.cells #[.int .i64 (k : Int)] 3)).lt j e).1); have HO3 := Lib.hid hown3; clear hown3 hgrow3)
            go_roundw
            case rel => exact ⟨k + 1, l ++ [(k : Int)], by omega, by go_num, HY2.out.symm, by unfold OwnN; rw [List.length_append, iCs_app]; exact HO3.out, hb5⟩
            case measure => simp only [intOf]; omega
          · have q1 : (r == b) = false := beq_no he
            have HX2 := Lib.hid (HS.out he)
            clear he HS
            go_wp2_with fail
            go_roundw
            case rel => exact ⟨m + 1, by omega, by go_num, HX2.out, HO.out, by trivial⟩
            case measure => simp only [intOf]; omega
        · obtain rfl : m = nx.length := by omega
          have HN2 := Lib.hid (HN.out (fun h => by
            obtain ⟨i, hi, e⟩ := List.getElem_of_mem h
            exact HA.out i hi hi e))
          clear HN HY HA
          go_wp2_with fail
          go_roundw
          case rel => exact ⟨k + 1, l, by omega, by go_num, HN2.out, HO.out, hb1⟩
          case measure => simp only [intOf]; omega
    · obtain rfl : k = bs.length := by omega
      have HE := Lib.hid (show PRet (predsTo bs b bs.length) w _ wr from ⟨⟨_, rfl, by rw [← HL.out]; exact HO.out.base (Nat.le_of_lt hl0)⟩, hb⟩)
      go_wp2_with fail
      go_ret
      exact HE.out
end Go.Proofs.YtomhomnibikceaaDoor
