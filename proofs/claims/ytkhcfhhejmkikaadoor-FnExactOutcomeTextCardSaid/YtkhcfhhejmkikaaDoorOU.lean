/-
  OutcomeText of the model and of the program.
-/
import Derived.Test.YtkhcfhhejmkikaaDoorOT
import Derived.Test.YtkhcfhhejmkikaaDoorOX
import Derived.Test.YtkhcfhhejmkikaaDoorSW
import Derived.Deep.RegionHeld3
namespace Go.Proofs.YtkhcfhhejmkikaaDoor
open Go.RowKit
set_option maxRecDepth 100000

structure MachO (o : Oc) : Prop where
  said : Mach o.said
  cells : Mach o.cells
  val : -9223372036854775808 ≤ o.val ∧ o.val ≤ 9223372036854775807
def TxRet (l : List UInt8) (w : World) (ee : Ending) (w' : World) : Prop := ee = .returned (.string (tx l)) ∧ Below w.heap.size w w'
theorem take_snoc {xs : List Int} {k : Nat} (h : k < xs.length) : xs.take (k + 1) = xs.take k ++ [xs[k]] := List.take_succ_eq_append_getElem h
theorem saidT_take {xs : List Int} {k : Nat} (h : k < xs.length) : tx (saidT (xs.take k)) ++ tx (Lib.itoa xs[k]) ++ ⟨#[32]⟩ = tx (saidT (xs.take (k + 1))) := by
  rw [take_snoc h, saidT_app, show (⟨#[32]⟩ : ByteArray) = tx [32] from rfl, tx_app, tx_app]
  congr 1
  show _ = saidT (xs.take k) ++ (Lib.itoa xs[k] ++ 32 :: [])
  rw [List.append_assoc]
theorem cellsT_no {cs : List Int} {k : Nat} (h : k < cs.length) (h0 : cs[k] = 0) : cellsT 0 (cs.take (k + 1)) = cellsT 0 (cs.take k) := by
  rw [take_snoc h, cellsT_snoc, if_pos h0, List.append_nil]
theorem cellsT_yes {cs : List Int} {k : Nat} (h : k < cs.length) (h0 : cs[k] ≠ 0) : cellsT 0 (cs.take (k + 1)) = cellsT 0 (cs.take k) ++ 32 :: (Lib.itoa (k : Int) ++ 61 :: Lib.itoa cs[k]) := by
  rw [take_snoc h, cellsT_snoc, if_neg h0, List.length_take, Nat.zero_add, Nat.min_eq_left (by omega)]
theorem cells_take {p : List UInt8} {cs : List Int} {k : Nat} (h : k < cs.length) (h0 : cs[k] ≠ 0) : tx (p ++ cellsT 0 (cs.take k)) ++ ⟨#[32]⟩ ++ tx (Lib.itoa (k : Int)) ++ ⟨#[61]⟩ ++ tx (Lib.itoa cs[k]) = tx (p ++ cellsT 0 (cs.take (k + 1))) := by
  rw [cellsT_yes h h0, show (⟨#[32]⟩ : ByteArray) = tx [32] from rfl, show (⟨#[61]⟩ : ByteArray) = tx [61] from rfl, tx_app, tx_app, tx_app, tx_app]
  congr 1
  simp
theorem cell_text {cs : List Int} {k : Nat} : (⟨#[32]⟩ : ByteArray) ++ tx (Lib.itoa (k : Int)) ++ ⟨#[61]⟩ ++ tx (Lib.itoa cs[k]!) = tx (32 :: (Lib.itoa (k : Int) ++ 61 :: Lib.itoa cs[k]!)) := by
  rw [show (⟨#[32]⟩ : ByteArray) = tx [32] from rfl, show (⟨#[61]⟩ : ByteArray) = tx [61] from rfl, tx_app, tx_app, tx_app]
  congr 1
  simp
theorem mach_take {xs : List Int} (h : Mach xs) (k : Nat) : Mach (xs.take k) := fun x hx => h x (List.mem_of_mem_take hx)
set_option maxHeartbeats 8000000 in
theorem specOutcomeText_any (o : Oc) (hl : bulkO o ≤ 1048576) (hm : MachO o) (A : Option Addr) (c : Nat) (A' : Option Addr) (c' : Nat) (w : World) (hR : OcR w o A A') :
    Calls Tryd.prog 8 #[ocV o A c A' c'] w (TxRet (outT o) w) := by
  unfold ocV
  unfold bulkO at hl
  have K0 := BoxV.new w [.slice A o.said.length c, .int .i64 o.en, .int .i64 o.val, .slice A' o.cells.length c'] 27
  have hb0 : Below w.heap.size w (w.alloc (.cells ([.slice A o.said.length c, .int .i64 o.en, .int .i64 o.val, .slice A' o.cells.length c']).toArray 27)) := (Below.refl _ _).alloc (Nat.le_refl _) _
  have hlt0 : w.heap.size < (w.alloc (.cells ([.slice A o.said.length c, .int .i64 o.en, .int .i64 o.val, .slice A' o.cells.length c']).toArray 27)).heap.size := by rw [World.size_alloc]; omega
  have e0 : w.alloc (.cells ([.slice A o.said.length c, .int .i64 o.en, .int .i64 o.val, .slice A' o.cells.length c']).toArray 27) = w.alloc (.cells #[.slice A o.said.length c, .int .i64 o.en, .int .i64 o.val, .slice A' o.cells.length c'] 27) := rfl
  rw [e0] at K0 hb0 hlt0
  clear e0
  have HR := Lib.hid hR
  have HM := Lib.hid hm
  have HK0 := Lib.hid K0
  clear hR hm K0
  go_enter Tryd.func8, Tryd.ntmps8
  go_wp2_with fail
  generalize w.alloc (.cells #[.slice A o.said.length c, .int .i64 o.en, .int .i64 o.val, .slice A' o.cells.length c'] 27) = w0 at *
  go_loopw [3, 4] (fun t i wr => ∃ k : Nat, k ≤ o.said.length ∧ i = .int .i64 k ∧ t = .string (tx (saidT (o.said.take k))) ∧ BoxV wr w.heap.size [.slice A o.said.length c, .int .i64 o.en, .int .i64 o.val, .slice A' o.cells.length c'] ∧ Below w.heap.size w wr ∧ w.heap.size < wr.heap.size) (fun _ i _ => o.said.length - (intOf i).toNat)
  case atStart => exact ⟨0, Nat.zero_le _, rfl, rfl, HK0.out, hb0, hlt0⟩
  case round =>
    clear HK0 hb0 hlt0
    obtain ⟨k, hk, rfl, rfl, hK, hb, hlt⟩ := hrel
    have k0 := hK 0 _ rfl
    have hbs := hb.size
    by_cases hlk : k < o.said.length
    · obtain ⟨b, oo, rfl, hB, hc⟩ := (HR.out.1.below hb).at_ hlk
      have hmc := HM.out.said _ (List.getElem_mem hlk)
      have HN := Lib.hid (saidT_take hlk)
      have HK := Lib.hid hK
      have hts := tx_size (saidT (o.said.take k))
      have hl1 := saidT_le (o.said.take k) (mach_take HM.out.said k)
      rw [List.length_take] at hl1
      have hti := tx_size (Lib.itoa o.said[k])
      have hi1 := itoa_le hmc.1 hmc.2
      have D1 := fun W => Lib.hid (l30Dec_any64 o.said[k] W hmc.1 hmc.2)
      generalize tx (saidT (o.said.take k)) = t at *
      generalize tx (Lib.itoa o.said[k]) = ti at *
      generalize o.said[k] = x at *
      have ht1 : t.size ≤ 100000000 := by omega
      have ht2 : ti.size ≤ 20 := by omega
      clear hts hti hl1 hi1 hK hmc
      go_wp2_with fail
      (with_reducible refine Calls.mono (D1 _).out ?_)
      rintro ee w1 ⟨rfl, hb1⟩
      have HK1 := Lib.hid (HK.out.below hb1 hlt)
      have hb2 := hb.trans (hb1.mono hbs)
      have hlt1 := Nat.lt_of_lt_of_le hlt hb1.size
      clear k0 hc hb1
      go_wp2_with fail
      go_roundw
      case rel => exact ⟨k + 1, by omega, by go_num, by rw [← HN.out], HK1.out, hb2, hlt1⟩
      case measure => simp only [intOf]; omega
    · obtain rfl : k = o.said.length := by omega
      rw [List.take_length]
      have k1 := hK 1 _ rfl
      have k2 := hK 2 _ rfl
      have HK := Lib.hid hK
      have hts := tx_size (saidT o.said)
      have hl1 := saidT_le o.said HM.out.said
      have ht1 : (tx (saidT o.said)).size ≤ 100000000 := by omega
      have hmv := HM.out.val
      have hti := tx_size (Lib.itoa o.val)
      have hi1 := itoa_le hmv.1 hmv.2
      have ht2 : (tx (Lib.itoa o.val)).size ≤ 20 := by omega
      have D1 := fun W => Lib.hid (l30Dec_any64 o.val W hmv.1 hmv.2)
      clear hts hl1 hti hi1 hmv hK
      have hE : o.en = 0 ∨ o.en = 1 ∨ o.en = 2 ∨ o.en = 3 ∨ (o.en ≠ 0 ∧ o.en ≠ 1 ∧ o.en ≠ 2 ∧ o.en ≠ 3) := by omega
      rcases hE with hE | hE | hE | hE | ⟨n0, n1, n2, n3⟩
      · have p0 : (o.en == 0) = true := by rw [hE]; rfl
        have HE := Lib.hid (show endT o.en o.val = [98, 97, 99, 107, 32] ++ Lib.itoa o.val from by unfold endT; rw [if_pos hE])
        have HPRE := Lib.hid (show tx (saidT o.said) ++ ⟨#[98, 97, 99, 107, 32]⟩ ++ tx (Lib.itoa o.val) = tx (saidT o.said ++ endT o.en o.val) by
          rw [HE.out, show (⟨#[98, 97, 99, 107, 32]⟩ : ByteArray) = tx [98, 97, 99, 107, 32] from rfl, tx_app, tx_app, List.append_assoc])
        clear hE
        generalize tx (saidT o.said) = t at *
        generalize tx (Lib.itoa o.val) = tv at *
        go_wp2_with fail
        (with_reducible refine Calls.mono (D1 _).out ?_)
        rintro ee w1 ⟨rfl, hb1⟩
        have KK := Lib.hid (HK.out.below hb1 hlt)
        have hbb := hb.trans (hb1.mono hbs)
        have hlt2 := Nat.lt_of_lt_of_le hlt hb1.size
        clear HK hb hlt hb1 k1 k2 p0 HE D1
        go_wp2_with fail
        go_loopw [3, 5] (fun t i wr => ∃ k : Nat, k ≤ o.cells.length ∧ i = .int .i64 k ∧ t = .string (tx (saidT o.said ++ endT o.en o.val ++ cellsT 0 (o.cells.take k))) ∧ BoxV wr w.heap.size [.slice A o.said.length c, .int .i64 o.en, .int .i64 o.val, .slice A' o.cells.length c'] ∧ Below w.heap.size w wr ∧ w.heap.size < wr.heap.size) (fun _ i _ => o.cells.length - (intOf i).toNat)
        case atStart => exact ⟨0, Nat.zero_le _, rfl, by rw [List.take_zero]; show _ = Value.string (tx (saidT o.said ++ endT o.en o.val ++ [])); rw [List.append_nil, ← HPRE.out], KK.out, hbb, hlt2⟩
        case round =>
          clear KK HPRE hbb hlt2
          obtain ⟨k, hk, rfl, rfl, hK, hb, hlt⟩ := hrel
          have k3 := hK 3 _ rfl
          have hbs := hb.size
          by_cases hlk : k < o.cells.length
          · obtain ⟨b, oo, rfl, hB, hc⟩ := (HR.out.2.below hb).at_ hlk
            have hmc := HM.out.cells _ (List.getElem_mem hlk)
            by_cases hz : o.cells[k] = 0
            · have e0 : (o.cells[k] != 0) = false := by rw [hz]; rfl
              have HN := Lib.hid (cellsT_no hlk hz)
              have HK := Lib.hid hK
              clear hK hz
              generalize o.cells[k] = x at *
              go_wp2_with fail
              go_roundw
              case rel => exact ⟨k + 1, by omega, by go_num, by rw [HN.out], HK.out, hb, hlt⟩
              case measure => simp only [intOf]; omega
            · have e0 : (o.cells[k] != 0) = true := by rw [bne, beq_no hz]; rfl
              have HN := Lib.hid (cells_take (p := saidT o.said ++ endT o.en o.val) hlk hz)
              have HK := Lib.hid hK
              have hts := tx_size (saidT o.said ++ endT o.en o.val ++ cellsT 0 (o.cells.take k))
              have hl1 := cellsT_le (o.cells.take k) 0 (mach_take HM.out.cells k) (by rw [List.length_take]; omega)
              rw [List.length_take] at hl1
              have hl2 := saidT_le o.said HM.out.said
              have hl3 := endT_le (en := o.en) HM.out.val.1 HM.out.val.2
              rw [List.length_append, List.length_append] at hts
              have hti := tx_size (Lib.itoa (k : Int))
              have hi1 := itoa_le (n := (k : Int)) (by omega) (by omega)
              have htc := tx_size (Lib.itoa o.cells[k])
              have hi2 := itoa_le hmc.1 hmc.2
              have D1 := fun W => Lib.hid (l30Dec_any64 (k : Int) W (by omega) (by omega))
              have D2 := fun W => Lib.hid (l30Dec_any64 o.cells[k] W hmc.1 hmc.2)
              generalize tx (saidT o.said ++ endT o.en o.val ++ cellsT 0 (o.cells.take k)) = t at *
              generalize tx (Lib.itoa (k : Int)) = ti at *
              generalize tx (Lib.itoa o.cells[k]) = tc at *
              generalize hx : o.cells[k] = x at *
              have ht1 : t.size ≤ 100000000 := by omega
              have ht2 : ti.size ≤ 20 := by omega
              have ht3 : tc.size ≤ 20 := by omega
              have q1 : ¬ (9223372036854775807 < t.size + 1) := by omega
              have q2 : ¬ (9223372036854775807 < t.size + 1 + ti.size) := by omega
              have q3 : ¬ (9223372036854775807 < t.size + 1 + ti.size + 1) := by omega
              have q4 : ¬ (9223372036854775807 < t.size + 1 + ti.size + 1 + tc.size) := by omega
              have hBr : b < wr.heap.size := by omega
              clear hts hti htc hl1 hl2 hl3 hi1 hi2 hK hz hx hmc
              go_wp2_with fail
              go_region_held3 (fun u => u.cell? ⟨w.heap.size, 3, none⟩ = some (.slice (some ⟨b, oo, none⟩) o.cells.length c') ∧ u.cell? ⟨b, oo + k, none⟩ = some (.int .i64 x)) (go_keep)
                (first
                  | (go_at_call 25; (with_reducible refine Calls.mono (D1 _).out ?_); rintro ee w1 ⟨rfl, hb1⟩; have g3 := (hb1.cell (p := ⟨w.heap.size, 3, none⟩) hlt).trans k3; have g4 := (hb1.cell (p := ⟨b, oo + k, none⟩) hBr).trans hc)
                  | (go_at_call 25; (with_reducible refine Calls.mono (D2 _).out ?_); rintro ee w2 ⟨rfl, hb2⟩; have m3 := (hb2.cell (p := ⟨w.heap.size, 3, none⟩) (Nat.lt_of_lt_of_le hlt hb1.size)).trans g3; have m4 := (hb2.cell (p := ⟨b, oo + k, none⟩) (Nat.lt_of_lt_of_le hBr hb1.size)).trans g4))
              all_goals
                have hb3 := (Below.refl wr.heap.size wr).drew.trans (hb1.trans (hb2.mono hb1.size))
                have HB3 := Lib.hid hb3
                clear hb1 hb2 g3 g4 m3 m4 k3 hc hb3
                go_wp2_with fail
                go_roundw
                case rel => exact ⟨k + 1, by omega, by go_num, by rw [← HN.out], HK.out.below HB3.out hlt, hb.trans (HB3.out.mono hbs), Nat.lt_of_lt_of_le hlt HB3.out.size⟩
                case measure => simp only [intOf]; omega
          · obtain rfl : k = o.cells.length := by omega
            rw [List.take_length]
            go_wp2_with fail
            go_ret
            exact ⟨by unfold outT; rw [List.append_assoc]; rfl, hb⟩
      · have p0 : (o.en == 0) = false := by rw [hE]; rfl
        have p1 : (o.en == 1) = true := by rw [hE]; rfl
        have HE := Lib.hid (show endT o.en o.val = [100, 105, 118, 105, 100, 101] from by unfold endT; rw [if_neg (by omega), if_pos hE])
        have HPRE := Lib.hid (show tx (saidT o.said) ++ ⟨#[100, 105, 118, 105, 100, 101]⟩ = tx (saidT o.said ++ endT o.en o.val) by
          rw [HE.out, show (⟨#[100, 105, 118, 105, 100, 101]⟩ : ByteArray) = tx [100, 105, 118, 105, 100, 101] from rfl, tx_app])
        have KK := HK
        have hbb := hb
        have hlt2 := hlt
        generalize tx (saidT o.said) = t at *
        clear HK hb hlt D1 HE hE
        go_wp2_with fail
        go_loopw [3, 5] (fun t i wr => ∃ k : Nat, k ≤ o.cells.length ∧ i = .int .i64 k ∧ t = .string (tx (saidT o.said ++ endT o.en o.val ++ cellsT 0 (o.cells.take k))) ∧ BoxV wr w.heap.size [.slice A o.said.length c, .int .i64 o.en, .int .i64 o.val, .slice A' o.cells.length c'] ∧ Below w.heap.size w wr ∧ w.heap.size < wr.heap.size) (fun _ i _ => o.cells.length - (intOf i).toNat)
        case atStart => exact ⟨0, Nat.zero_le _, rfl, by rw [List.take_zero]; show _ = Value.string (tx (saidT o.said ++ endT o.en o.val ++ [])); rw [List.append_nil, ← HPRE.out], KK.out, hbb, hlt2⟩
        case round =>
          clear KK HPRE hbb hlt2
          obtain ⟨k, hk, rfl, rfl, hK, hb, hlt⟩ := hrel
          have k3 := hK 3 _ rfl
          have hbs := hb.size
          by_cases hlk : k < o.cells.length
          · obtain ⟨b, oo, rfl, hB, hc⟩ := (HR.out.2.below hb).at_ hlk
            have hmc := HM.out.cells _ (List.getElem_mem hlk)
            by_cases hz : o.cells[k] = 0
            · have e0 : (o.cells[k] != 0) = false := by rw [hz]; rfl
              have HN := Lib.hid (cellsT_no hlk hz)
              have HK := Lib.hid hK
              clear hK hz
              generalize o.cells[k] = x at *
              go_wp2_with fail
              go_roundw
              case rel => exact ⟨k + 1, by omega, by go_num, by rw [HN.out], HK.out, hb, hlt⟩
              case measure => simp only [intOf]; omega
            · have e0 : (o.cells[k] != 0) = true := by rw [bne, beq_no hz]; rfl
              have HN := Lib.hid (cells_take (p := saidT o.said ++ endT o.en o.val) hlk hz)
              have HK := Lib.hid hK
              have hts := tx_size (saidT o.said ++ endT o.en o.val ++ cellsT 0 (o.cells.take k))
              have hl1 := cellsT_le (o.cells.take k) 0 (mach_take HM.out.cells k) (by rw [List.length_take]; omega)
              rw [List.length_take] at hl1
              have hl2 := saidT_le o.said HM.out.said
              have hl3 := endT_le (en := o.en) HM.out.val.1 HM.out.val.2
              rw [List.length_append, List.length_append] at hts
              have hti := tx_size (Lib.itoa (k : Int))
              have hi1 := itoa_le (n := (k : Int)) (by omega) (by omega)
              have htc := tx_size (Lib.itoa o.cells[k])
              have hi2 := itoa_le hmc.1 hmc.2
              have D1 := fun W => Lib.hid (l30Dec_any64 (k : Int) W (by omega) (by omega))
              have D2 := fun W => Lib.hid (l30Dec_any64 o.cells[k] W hmc.1 hmc.2)
              generalize tx (saidT o.said ++ endT o.en o.val ++ cellsT 0 (o.cells.take k)) = t at *
              generalize tx (Lib.itoa (k : Int)) = ti at *
              generalize tx (Lib.itoa o.cells[k]) = tc at *
              generalize hx : o.cells[k] = x at *
              have ht1 : t.size ≤ 100000000 := by omega
              have ht2 : ti.size ≤ 20 := by omega
              have ht3 : tc.size ≤ 20 := by omega
              have q1 : ¬ (9223372036854775807 < t.size + 1) := by omega
              have q2 : ¬ (9223372036854775807 < t.size + 1 + ti.size) := by omega
              have q3 : ¬ (9223372036854775807 < t.size + 1 + ti.size + 1) := by omega
              have q4 : ¬ (9223372036854775807 < t.size + 1 + ti.size + 1 + tc.size) := by omega
              have hBr : b < wr.heap.size := by omega
              clear hts hti htc hl1 hl2 hl3 hi1 hi2 hK hz hx hmc
              go_wp2_with fail
              go_region_held3 (fun u => u.cell? ⟨w.heap.size, 3, none⟩ = some (.slice (some ⟨b, oo, none⟩) o.cells.length c') ∧ u.cell? ⟨b, oo + k, none⟩ = some (.int .i64 x)) (go_keep)
                (first
                  | (go_at_call 25; (with_reducible refine Calls.mono (D1 _).out ?_); rintro ee w1 ⟨rfl, hb1⟩; have g3 := (hb1.cell (p := ⟨w.heap.size, 3, none⟩) hlt).trans k3; have g4 := (hb1.cell (p := ⟨b, oo + k, none⟩) hBr).trans hc)
                  | (go_at_call 25; (with_reducible refine Calls.mono (D2 _).out ?_); rintro ee w2 ⟨rfl, hb2⟩; have m3 := (hb2.cell (p := ⟨w.heap.size, 3, none⟩) (Nat.lt_of_lt_of_le hlt hb1.size)).trans g3; have m4 := (hb2.cell (p := ⟨b, oo + k, none⟩) (Nat.lt_of_lt_of_le hBr hb1.size)).trans g4))
              all_goals
                have hb3 := (Below.refl wr.heap.size wr).drew.trans (hb1.trans (hb2.mono hb1.size))
                have HB3 := Lib.hid hb3
                clear hb1 hb2 g3 g4 m3 m4 k3 hc hb3
                go_wp2_with fail
                go_roundw
                case rel => exact ⟨k + 1, by omega, by go_num, by rw [← HN.out], HK.out.below HB3.out hlt, hb.trans (HB3.out.mono hbs), Nat.lt_of_lt_of_le hlt HB3.out.size⟩
                case measure => simp only [intOf]; omega
          · obtain rfl : k = o.cells.length := by omega
            rw [List.take_length]
            go_wp2_with fail
            go_ret
            exact ⟨by unfold outT; rw [List.append_assoc]; rfl, hb⟩
      · have p0 : (o.en == 0) = false := by rw [hE]; rfl
        have p1 : (o.en == 1) = false := by rw [hE]; rfl
        have p2 : (o.en == 2) = true := by rw [hE]; rfl
        have HE := Lib.hid (show endT o.en o.val = [99, 101, 108, 108] from by unfold endT; rw [if_neg (by omega), if_neg (by omega), if_pos hE])
        have HPRE := Lib.hid (show tx (saidT o.said) ++ ⟨#[99, 101, 108, 108]⟩ = tx (saidT o.said ++ endT o.en o.val) by
          rw [HE.out, show (⟨#[99, 101, 108, 108]⟩ : ByteArray) = tx [99, 101, 108, 108] from rfl, tx_app])
        have KK := HK
        have hbb := hb
        have hlt2 := hlt
        generalize tx (saidT o.said) = t at *
        clear HK hb hlt D1 HE hE
        go_wp2_with fail
        go_loopw [3, 5] (fun t i wr => ∃ k : Nat, k ≤ o.cells.length ∧ i = .int .i64 k ∧ t = .string (tx (saidT o.said ++ endT o.en o.val ++ cellsT 0 (o.cells.take k))) ∧ BoxV wr w.heap.size [.slice A o.said.length c, .int .i64 o.en, .int .i64 o.val, .slice A' o.cells.length c'] ∧ Below w.heap.size w wr ∧ w.heap.size < wr.heap.size) (fun _ i _ => o.cells.length - (intOf i).toNat)
        case atStart => exact ⟨0, Nat.zero_le _, rfl, by rw [List.take_zero]; show _ = Value.string (tx (saidT o.said ++ endT o.en o.val ++ [])); rw [List.append_nil, ← HPRE.out], KK.out, hbb, hlt2⟩
        case round =>
          clear KK HPRE hbb hlt2
          obtain ⟨k, hk, rfl, rfl, hK, hb, hlt⟩ := hrel
          have k3 := hK 3 _ rfl
          have hbs := hb.size
          by_cases hlk : k < o.cells.length
          · obtain ⟨b, oo, rfl, hB, hc⟩ := (HR.out.2.below hb).at_ hlk
            have hmc := HM.out.cells _ (List.getElem_mem hlk)
            by_cases hz : o.cells[k] = 0
            · have e0 : (o.cells[k] != 0) = false := by rw [hz]; rfl
              have HN := Lib.hid (cellsT_no hlk hz)
              have HK := Lib.hid hK
              clear hK hz
              generalize o.cells[k] = x at *
              go_wp2_with fail
              go_roundw
              case rel => exact ⟨k + 1, by omega, by go_num, by rw [HN.out], HK.out, hb, hlt⟩
              case measure => simp only [intOf]; omega
            · have e0 : (o.cells[k] != 0) = true := by rw [bne, beq_no hz]; rfl
              have HN := Lib.hid (cells_take (p := saidT o.said ++ endT o.en o.val) hlk hz)
              have HK := Lib.hid hK
              have hts := tx_size (saidT o.said ++ endT o.en o.val ++ cellsT 0 (o.cells.take k))
              have hl1 := cellsT_le (o.cells.take k) 0 (mach_take HM.out.cells k) (by rw [List.length_take]; omega)
              rw [List.length_take] at hl1
              have hl2 := saidT_le o.said HM.out.said
              have hl3 := endT_le (en := o.en) HM.out.val.1 HM.out.val.2
              rw [List.length_append, List.length_append] at hts
              have hti := tx_size (Lib.itoa (k : Int))
              have hi1 := itoa_le (n := (k : Int)) (by omega) (by omega)
              have htc := tx_size (Lib.itoa o.cells[k])
              have hi2 := itoa_le hmc.1 hmc.2
              have D1 := fun W => Lib.hid (l30Dec_any64 (k : Int) W (by omega) (by omega))
              have D2 := fun W => Lib.hid (l30Dec_any64 o.cells[k] W hmc.1 hmc.2)
              generalize tx (saidT o.said ++ endT o.en o.val ++ cellsT 0 (o.cells.take k)) = t at *
              generalize tx (Lib.itoa (k : Int)) = ti at *
              generalize tx (Lib.itoa o.cells[k]) = tc at *
              generalize hx : o.cells[k] = x at *
              have ht1 : t.size ≤ 100000000 := by omega
              have ht2 : ti.size ≤ 20 := by omega
              have ht3 : tc.size ≤ 20 := by omega
              have q1 : ¬ (9223372036854775807 < t.size + 1) := by omega
              have q2 : ¬ (9223372036854775807 < t.size + 1 + ti.size) := by omega
              have q3 : ¬ (9223372036854775807 < t.size + 1 + ti.size + 1) := by omega
              have q4 : ¬ (9223372036854775807 < t.size + 1 + ti.size + 1 + tc.size) := by omega
              have hBr : b < wr.heap.size := by omega
              clear hts hti htc hl1 hl2 hl3 hi1 hi2 hK hz hx hmc
              go_wp2_with fail
              go_region_held3 (fun u => u.cell? ⟨w.heap.size, 3, none⟩ = some (.slice (some ⟨b, oo, none⟩) o.cells.length c') ∧ u.cell? ⟨b, oo + k, none⟩ = some (.int .i64 x)) (go_keep)
                (first
                  | (go_at_call 25; (with_reducible refine Calls.mono (D1 _).out ?_); rintro ee w1 ⟨rfl, hb1⟩; have g3 := (hb1.cell (p := ⟨w.heap.size, 3, none⟩) hlt).trans k3; have g4 := (hb1.cell (p := ⟨b, oo + k, none⟩) hBr).trans hc)
                  | (go_at_call 25; (with_reducible refine Calls.mono (D2 _).out ?_); rintro ee w2 ⟨rfl, hb2⟩; have m3 := (hb2.cell (p := ⟨w.heap.size, 3, none⟩) (Nat.lt_of_lt_of_le hlt hb1.size)).trans g3; have m4 := (hb2.cell (p := ⟨b, oo + k, none⟩) (Nat.lt_of_lt_of_le hBr hb1.size)).trans g4))
              all_goals
                have hb3 := (Below.refl wr.heap.size wr).drew.trans (hb1.trans (hb2.mono hb1.size))
                have HB3 := Lib.hid hb3
                clear hb1 hb2 g3 g4 m3 m4 k3 hc hb3
                go_wp2_with fail
                go_roundw
                case rel => exact ⟨k + 1, by omega, by go_num, by rw [← HN.out], HK.out.below HB3.out hlt, hb.trans (HB3.out.mono hbs), Nat.lt_of_lt_of_le hlt HB3.out.size⟩
                case measure => simp only [intOf]; omega
          · obtain rfl : k = o.cells.length := by omega
            rw [List.take_length]
            go_wp2_with fail
            go_ret
            exact ⟨by unfold outT; rw [List.append_assoc]; rfl, hb⟩
      · have p0 : (o.en == 0) = false := by rw [hE]; rfl
        have p1 : (o.en == 1) = false := by rw [hE]; rfl
        have p2 : (o.en == 2) = false := by rw [hE]; rfl
        have p3 : (o.en == 3) = true := by rw [hE]; rfl
        have HE := Lib.hid (show endT o.en o.val = [102, 117, 101, 108] from by unfold endT; rw [if_neg (by omega), if_neg (by omega), if_neg (by omega), if_pos hE])
        have HPRE := Lib.hid (show tx (saidT o.said) ++ ⟨#[102, 117, 101, 108]⟩ = tx (saidT o.said ++ endT o.en o.val) by
          rw [HE.out, show (⟨#[102, 117, 101, 108]⟩ : ByteArray) = tx [102, 117, 101, 108] from rfl, tx_app])
        have KK := HK
        have hbb := hb
        have hlt2 := hlt
        generalize tx (saidT o.said) = t at *
        clear HK hb hlt D1 HE hE
        go_wp2_with fail
        go_loopw [3, 5] (fun t i wr => ∃ k : Nat, k ≤ o.cells.length ∧ i = .int .i64 k ∧ t = .string (tx (saidT o.said ++ endT o.en o.val ++ cellsT 0 (o.cells.take k))) ∧ BoxV wr w.heap.size [.slice A o.said.length c, .int .i64 o.en, .int .i64 o.val, .slice A' o.cells.length c'] ∧ Below w.heap.size w wr ∧ w.heap.size < wr.heap.size) (fun _ i _ => o.cells.length - (intOf i).toNat)
        case atStart => exact ⟨0, Nat.zero_le _, rfl, by rw [List.take_zero]; show _ = Value.string (tx (saidT o.said ++ endT o.en o.val ++ [])); rw [List.append_nil, ← HPRE.out], KK.out, hbb, hlt2⟩
        case round =>
          clear KK HPRE hbb hlt2
          obtain ⟨k, hk, rfl, rfl, hK, hb, hlt⟩ := hrel
          have k3 := hK 3 _ rfl
          have hbs := hb.size
          by_cases hlk : k < o.cells.length
          · obtain ⟨b, oo, rfl, hB, hc⟩ := (HR.out.2.below hb).at_ hlk
            have hmc := HM.out.cells _ (List.getElem_mem hlk)
            by_cases hz : o.cells[k] = 0
            · have e0 : (o.cells[k] != 0) = false := by rw [hz]; rfl
              have HN := Lib.hid (cellsT_no hlk hz)
              have HK := Lib.hid hK
              clear hK hz
              generalize o.cells[k] = x at *
              go_wp2_with fail
              go_roundw
              case rel => exact ⟨k + 1, by omega, by go_num, by rw [HN.out], HK.out, hb, hlt⟩
              case measure => simp only [intOf]; omega
            · have e0 : (o.cells[k] != 0) = true := by rw [bne, beq_no hz]; rfl
              have HN := Lib.hid (cells_take (p := saidT o.said ++ endT o.en o.val) hlk hz)
              have HK := Lib.hid hK
              have hts := tx_size (saidT o.said ++ endT o.en o.val ++ cellsT 0 (o.cells.take k))
              have hl1 := cellsT_le (o.cells.take k) 0 (mach_take HM.out.cells k) (by rw [List.length_take]; omega)
              rw [List.length_take] at hl1
              have hl2 := saidT_le o.said HM.out.said
              have hl3 := endT_le (en := o.en) HM.out.val.1 HM.out.val.2
              rw [List.length_append, List.length_append] at hts
              have hti := tx_size (Lib.itoa (k : Int))
              have hi1 := itoa_le (n := (k : Int)) (by omega) (by omega)
              have htc := tx_size (Lib.itoa o.cells[k])
              have hi2 := itoa_le hmc.1 hmc.2
              have D1 := fun W => Lib.hid (l30Dec_any64 (k : Int) W (by omega) (by omega))
              have D2 := fun W => Lib.hid (l30Dec_any64 o.cells[k] W hmc.1 hmc.2)
              generalize tx (saidT o.said ++ endT o.en o.val ++ cellsT 0 (o.cells.take k)) = t at *
              generalize tx (Lib.itoa (k : Int)) = ti at *
              generalize tx (Lib.itoa o.cells[k]) = tc at *
              generalize hx : o.cells[k] = x at *
              have ht1 : t.size ≤ 100000000 := by omega
              have ht2 : ti.size ≤ 20 := by omega
              have ht3 : tc.size ≤ 20 := by omega
              have q1 : ¬ (9223372036854775807 < t.size + 1) := by omega
              have q2 : ¬ (9223372036854775807 < t.size + 1 + ti.size) := by omega
              have q3 : ¬ (9223372036854775807 < t.size + 1 + ti.size + 1) := by omega
              have q4 : ¬ (9223372036854775807 < t.size + 1 + ti.size + 1 + tc.size) := by omega
              have hBr : b < wr.heap.size := by omega
              clear hts hti htc hl1 hl2 hl3 hi1 hi2 hK hz hx hmc
              go_wp2_with fail
              go_region_held3 (fun u => u.cell? ⟨w.heap.size, 3, none⟩ = some (.slice (some ⟨b, oo, none⟩) o.cells.length c') ∧ u.cell? ⟨b, oo + k, none⟩ = some (.int .i64 x)) (go_keep)
                (first
                  | (go_at_call 25; (with_reducible refine Calls.mono (D1 _).out ?_); rintro ee w1 ⟨rfl, hb1⟩; have g3 := (hb1.cell (p := ⟨w.heap.size, 3, none⟩) hlt).trans k3; have g4 := (hb1.cell (p := ⟨b, oo + k, none⟩) hBr).trans hc)
                  | (go_at_call 25; (with_reducible refine Calls.mono (D2 _).out ?_); rintro ee w2 ⟨rfl, hb2⟩; have m3 := (hb2.cell (p := ⟨w.heap.size, 3, none⟩) (Nat.lt_of_lt_of_le hlt hb1.size)).trans g3; have m4 := (hb2.cell (p := ⟨b, oo + k, none⟩) (Nat.lt_of_lt_of_le hBr hb1.size)).trans g4))
              all_goals
                have hb3 := (Below.refl wr.heap.size wr).drew.trans (hb1.trans (hb2.mono hb1.size))
                have HB3 := Lib.hid hb3
                clear hb1 hb2 g3 g4 m3 m4 k3 hc hb3
                go_wp2_with fail
                go_roundw
                case rel => exact ⟨k + 1, by omega, by go_num, by rw [← HN.out], HK.out.below HB3.out hlt, hb.trans (HB3.out.mono hbs), Nat.lt_of_lt_of_le hlt HB3.out.size⟩
                case measure => simp only [intOf]; omega
          · obtain rfl : k = o.cells.length := by omega
            rw [List.take_length]
            go_wp2_with fail
            go_ret
            exact ⟨by unfold outT; rw [List.append_assoc]; rfl, hb⟩
      · have p0 : (o.en == 0) = false := beq_no n0
        have p1 : (o.en == 1) = false := beq_no n1
        have p2 : (o.en == 2) = false := beq_no n2
        have p3 : (o.en == 3) = false := beq_no n3
        have HE := Lib.hid (show endT o.en o.val = [119, 104, 97, 116] from by unfold endT; rw [if_neg n0, if_neg n1, if_neg n2, if_neg n3])
        have HPRE := Lib.hid (show tx (saidT o.said) ++ ⟨#[119, 104, 97, 116]⟩ = tx (saidT o.said ++ endT o.en o.val) by
          rw [HE.out, show (⟨#[119, 104, 97, 116]⟩ : ByteArray) = tx [119, 104, 97, 116] from rfl, tx_app])
        have KK := HK
        have hbb := hb
        have hlt2 := hlt
        generalize tx (saidT o.said) = t at *
        clear HK hb hlt D1 HE n0 n1 n2 n3
        go_wp2_with fail
        go_loopw [3, 5] (fun t i wr => ∃ k : Nat, k ≤ o.cells.length ∧ i = .int .i64 k ∧ t = .string (tx (saidT o.said ++ endT o.en o.val ++ cellsT 0 (o.cells.take k))) ∧ BoxV wr w.heap.size [.slice A o.said.length c, .int .i64 o.en, .int .i64 o.val, .slice A' o.cells.length c'] ∧ Below w.heap.size w wr ∧ w.heap.size < wr.heap.size) (fun _ i _ => o.cells.length - (intOf i).toNat)
        case atStart => exact ⟨0, Nat.zero_le _, rfl, by rw [List.take_zero]; show _ = Value.string (tx (saidT o.said ++ endT o.en o.val ++ [])); rw [List.append_nil, ← HPRE.out], KK.out, hbb, hlt2⟩
        case round =>
          clear KK HPRE hbb hlt2
          obtain ⟨k, hk, rfl, rfl, hK, hb, hlt⟩ := hrel
          have k3 := hK 3 _ rfl
          have hbs := hb.size
          by_cases hlk : k < o.cells.length
          · obtain ⟨b, oo, rfl, hB, hc⟩ := (HR.out.2.below hb).at_ hlk
            have hmc := HM.out.cells _ (List.getElem_mem hlk)
            by_cases hz : o.cells[k] = 0
            · have e0 : (o.cells[k] != 0) = false := by rw [hz]; rfl
              have HN := Lib.hid (cellsT_no hlk hz)
              have HK := Lib.hid hK
              clear hK hz
              generalize o.cells[k] = x at *
              go_wp2_with fail
              go_roundw
              case rel => exact ⟨k + 1, by omega, by go_num, by rw [HN.out], HK.out, hb, hlt⟩
              case measure => simp only [intOf]; omega
            · have e0 : (o.cells[k] != 0) = true := by rw [bne, beq_no hz]; rfl
              have HN := Lib.hid (cells_take (p := saidT o.said ++ endT o.en o.val) hlk hz)
              have HK := Lib.hid hK
              have hts := tx_size (saidT o.said ++ endT o.en o.val ++ cellsT 0 (o.cells.take k))
              have hl1 := cellsT_le (o.cells.take k) 0 (mach_take HM.out.cells k) (by rw [List.length_take]; omega)
              rw [List.length_take] at hl1
              have hl2 := saidT_le o.said HM.out.said
              have hl3 := endT_le (en := o.en) HM.out.val.1 HM.out.val.2
              rw [List.length_append, List.length_append] at hts
              have hti := tx_size (Lib.itoa (k : Int))
              have hi1 := itoa_le (n := (k : Int)) (by omega) (by omega)
              have htc := tx_size (Lib.itoa o.cells[k])
              have hi2 := itoa_le hmc.1 hmc.2
              have D1 := fun W => Lib.hid (l30Dec_any64 (k : Int) W (by omega) (by omega))
              have D2 := fun W => Lib.hid (l30Dec_any64 o.cells[k] W hmc.1 hmc.2)
              generalize tx (saidT o.said ++ endT o.en o.val ++ cellsT 0 (o.cells.take k)) = t at *
              generalize tx (Lib.itoa (k : Int)) = ti at *
              generalize tx (Lib.itoa o.cells[k]) = tc at *
              generalize hx : o.cells[k] = x at *
              have ht1 : t.size ≤ 100000000 := by omega
              have ht2 : ti.size ≤ 20 := by omega
              have ht3 : tc.size ≤ 20 := by omega
              have q1 : ¬ (9223372036854775807 < t.size + 1) := by omega
              have q2 : ¬ (9223372036854775807 < t.size + 1 + ti.size) := by omega
              have q3 : ¬ (9223372036854775807 < t.size + 1 + ti.size + 1) := by omega
              have q4 : ¬ (9223372036854775807 < t.size + 1 + ti.size + 1 + tc.size) := by omega
              have hBr : b < wr.heap.size := by omega
              clear hts hti htc hl1 hl2 hl3 hi1 hi2 hK hz hx hmc
              go_wp2_with fail
              go_region_held3 (fun u => u.cell? ⟨w.heap.size, 3, none⟩ = some (.slice (some ⟨b, oo, none⟩) o.cells.length c') ∧ u.cell? ⟨b, oo + k, none⟩ = some (.int .i64 x)) (go_keep)
                (first
                  | (go_at_call 25; (with_reducible refine Calls.mono (D1 _).out ?_); rintro ee w1 ⟨rfl, hb1⟩; have g3 := (hb1.cell (p := ⟨w.heap.size, 3, none⟩) hlt).trans k3; have g4 := (hb1.cell (p := ⟨b, oo + k, none⟩) hBr).trans hc)
                  | (go_at_call 25; (with_reducible refine Calls.mono (D2 _).out ?_); rintro ee w2 ⟨rfl, hb2⟩; have m3 := (hb2.cell (p := ⟨w.heap.size, 3, none⟩) (Nat.lt_of_lt_of_le hlt hb1.size)).trans g3; have m4 := (hb2.cell (p := ⟨b, oo + k, none⟩) (Nat.lt_of_lt_of_le hBr hb1.size)).trans g4))
              all_goals
                have hb3 := (Below.refl wr.heap.size wr).drew.trans (hb1.trans (hb2.mono hb1.size))
                have HB3 := Lib.hid hb3
                clear hb1 hb2 g3 g4 m3 m4 k3 hc hb3
                go_wp2_with fail
                go_roundw
                case rel => exact ⟨k + 1, by omega, by go_num, by rw [← HN.out], HK.out.below HB3.out hlt, hb.trans (HB3.out.mono hbs), Nat.lt_of_lt_of_le hlt HB3.out.size⟩
                case measure => simp only [intOf]; omega
          · obtain rfl : k = o.cells.length := by omega
            rw [List.take_length]
            go_wp2_with fail
            go_ret
            exact ⟨by unfold outT; rw [List.append_assoc]; rfl, hb⟩
end Go.Proofs.YtkhcfhhejmkikaaDoor
