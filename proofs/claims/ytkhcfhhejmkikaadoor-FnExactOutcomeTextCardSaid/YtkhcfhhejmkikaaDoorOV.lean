/-
  The program's OutcomeText.
-/
import Derived.Test.YtkhcfhhejmkikaaDoorOU
import Derived.Lib.AppendIntMem
import Derived.Deep.CutRange
namespace Go.Proofs.YtkhcfhhejmkikaaDoor
open Go.RowKit
set_option maxRecDepth 100000

/-- The library's table of powers stands in the world. -/
structure PTab (w : World) : Prop where
  pow : Lib.TabIs Tryd.prog w "internal/strconv.uint64pow10" .u64 Lib.pow10Tab
  size : 1 < w.heap.size
theorem PTab.below {w w' : World} (T : PTab w) (hb : Below w.heap.size w w') : PTab w' :=
  ⟨var?_below hb (show Tryd.prog.globalNamed "internal/strconv.uint64pow10" = some 1 by kernel_rfl) T.size T.pow, Nat.lt_of_lt_of_le T.size hb.size⟩
theorem itoa_any (n : Int) (h0 : -9223372036854775808 ≤ n) (h1 : n ≤ 9223372036854775807) (w : World) (P : PTab w) :
    Calls Tryd.prog 28 #[.int .i64 n] w (TxRet (Lib.itoa n) w) :=
  (Tryd.strconv_Itoa n h0 h1 w P.pow).mono fun e w' ⟨he, k, os, hw⟩ => ⟨he, by subst hw; exact Lib.below_grow _ _ (Nat.le_refl _) k os⟩
theorem isb_below {B b : Nat} {bs : List Value} {w w' : World} (h : Lib.IsBuilder 57 5 B b bs w) (hb : Below w.heap.size w w') : Lib.IsBuilder 57 5 B b bs w' := by
  have key : ∀ p, Lib.BuilderAt 57 5 B b p bs w → Lib.BuilderAt 57 5 B b p bs w' := by
    rintro p ⟨hB, v, h1, h2, h3⟩
    exact ⟨hB, v, by rw [hb.block b (Array.getElem?_eq_some_iff.1 h1).1]; exact h1, World.ownsRow.kept (row := none) h2 ⟨hb.os, hb.tape, hb.output, hb.size, fun i hi _ => hb.block i hi⟩ (Classical.em _), h3⟩
  exact h.imp (key _) (key _)
set_option maxHeartbeats 4000000 in
theorem endText_any (o : Oc) (hv : -9223372036854775808 ≤ o.val ∧ o.val ≤ 9223372036854775807) (A : Option Addr) (c : Nat) (A' : Option Addr) (c' : Nat) (w : World) (P : PTab w) :
    Calls Tryd.prog 29 #[ocV o A c A' c'] w (TxRet (endT o.en o.val) w) := by
  unfold ocV
  have k1 : (w.alloc (.cells #[.slice A o.said.length c, .int .i64 o.en, .int .i64 o.val, .slice A' o.cells.length c'] 27)).cell? ⟨w.heap.size, 1, none⟩ = some (.int .i64 o.en) := alloc_cell w _ _ (0, 0) 1
  have k2 : (w.alloc (.cells #[.slice A o.said.length c, .int .i64 o.en, .int .i64 o.val, .slice A' o.cells.length c'] 27)).cell? ⟨w.heap.size, 2, none⟩ = some (.int .i64 o.val) := alloc_cell w _ _ (0, 0) 2
  have hb0 : Below w.heap.size w (w.alloc (.cells #[.slice A o.said.length c, .int .i64 o.en, .int .i64 o.val, .slice A' o.cells.length c'] 27)) := (Below.refl _ _).alloc (Nat.le_refl _) _
  have IT := Lib.hid (itoa_any o.val hv.1 hv.2 _ (P.below hb0))
  have hti := tx_size (Lib.itoa o.val)
  have hi1 := itoa_le hv.1 hv.2
  have ht2 : (tx (Lib.itoa o.val)).size ≤ 20 := by omega
  clear hti hi1 P
  have hE : o.en = 0 ∨ o.en = 1 ∨ o.en = 2 ∨ o.en = 3 ∨ (o.en ≠ 0 ∧ o.en ≠ 1 ∧ o.en ≠ 2 ∧ o.en ≠ 3) := by omega
  rcases hE with hE | hE | hE | hE | ⟨n0, n1, n2, n3⟩
  · have p0 : (o.en == 0) = true := by rw [hE]; rfl
    have HE := Lib.hid (show endT o.en o.val = [98, 97, 99, 107, 32] ++ Lib.itoa o.val from by unfold endT; rw [if_pos hE])
    have HX := Lib.hid (show (⟨#[98, 97, 99, 107, 32]⟩ : ByteArray) ++ tx (Lib.itoa o.val) = tx (endT o.en o.val) by rw [HE.out, show (⟨#[98, 97, 99, 107, 32]⟩ : ByteArray) = tx [98, 97, 99, 107, 32] from rfl, tx_app])
    clear hE
    unfold TxRet at IT
    generalize tx (Lib.itoa o.val) = tv at *
    go_enter Tryd.func29, Tryd.ntmps29
    go_wp2_with fail
    (with_reducible refine Calls.mono IT.out ?_)
    rintro ee w1 ⟨rfl, hb1⟩
    have hb2 := hb0.trans (hb1.mono hb0.size)
    go_wp2_with fail
    go_ret
    exact ⟨by rw [← HX.out]; rfl, hb2⟩
  · have p0 : (o.en == 0) = false := by rw [hE]; rfl
    have p1 : (o.en == 1) = true := by rw [hE]; rfl
    have HE := Lib.hid (show endT o.en o.val = [100, 105, 118, 105, 100, 101] from by unfold endT; rw [if_neg (by omega), if_pos hE])
    clear hE IT
    go_enter Tryd.func29, Tryd.ntmps29
    go_wp2_with fail
    go_ret
    exact ⟨by rw [HE.out]; rfl, hb0⟩
  · have p0 : (o.en == 0) = false := by rw [hE]; rfl
    have p1 : (o.en == 1) = false := by rw [hE]; rfl
    have p2 : (o.en == 2) = true := by rw [hE]; rfl
    have HE := Lib.hid (show endT o.en o.val = [99, 101, 108, 108] from by unfold endT; rw [if_neg (by omega), if_neg (by omega), if_pos hE])
    clear hE IT
    go_enter Tryd.func29, Tryd.ntmps29
    go_wp2_with fail
    go_ret
    exact ⟨by rw [HE.out]; rfl, hb0⟩
  · have p0 : (o.en == 0) = false := by rw [hE]; rfl
    have p1 : (o.en == 1) = false := by rw [hE]; rfl
    have p2 : (o.en == 2) = false := by rw [hE]; rfl
    have p3 : (o.en == 3) = true := by rw [hE]; rfl
    have HE := Lib.hid (show endT o.en o.val = [102, 117, 101, 108] from by unfold endT; rw [if_neg (by omega), if_neg (by omega), if_neg (by omega), if_pos hE])
    clear hE IT
    go_enter Tryd.func29, Tryd.ntmps29
    go_wp2_with fail
    go_ret
    exact ⟨by rw [HE.out]; rfl, hb0⟩
  · have p0 : (o.en == 0) = false := beq_no n0
    have p1 : (o.en == 1) = false := beq_no n1
    have p2 : (o.en == 2) = false := beq_no n2
    have p3 : (o.en == 3) = false := beq_no n3
    have HE := Lib.hid (show endT o.en o.val = [119, 104, 97, 116] from by unfold endT; rw [if_neg n0, if_neg n1, if_neg n2, if_neg n3])
    clear n0 n1 n2 n3 IT
    go_enter Tryd.func29, Tryd.ntmps29
    go_wp2_with fail
    go_ret
    exact ⟨by rw [HE.out]; rfl, hb0⟩
theorem said_step {xs : List Int} {k : Nat} (h : k < xs.length) : Lib.byteCells (saidT (xs.take k)) ++ Lib.strCells (tx (Lib.itoa xs[k]) ++ ⟨#[32]⟩) = Lib.byteCells (saidT (xs.take (k + 1))) := by
  rw [take_snoc h, saidT_app, Lib.byteCells_append, show (⟨#[32]⟩ : ByteArray) = tx [32] from rfl, tx_app]
  rfl
theorem cells_step {p : List UInt8} {cs : List Int} {k : Nat} (h : k < cs.length) (h0 : cs[k] ≠ 0) : Lib.byteCells (p ++ cellsT 0 (cs.take k)) ++ Lib.strCells ((⟨#[32]⟩ : ByteArray) ++ tx (Lib.itoa (k : Int)) ++ ⟨#[61]⟩ ++ tx (Lib.itoa cs[k])) = Lib.byteCells (p ++ cellsT 0 (cs.take (k + 1))) := by
  rw [cellsT_yes h h0, show (⟨#[32]⟩ : ByteArray) = tx [32] from rfl, show (⟨#[61]⟩ : ByteArray) = tx [61] from rfl, tx_app, tx_app, tx_app, ← List.append_assoc]
  have e : [32] ++ Lib.itoa (k : Int) ++ [61] ++ Lib.itoa cs[k] = 32 :: (Lib.itoa (k : Int) ++ 61 :: Lib.itoa cs[k]) := by simp
  rw [e]
  exact (Lib.byteCells_append _ _).symm
set_option maxHeartbeats 8000000 in
theorem implOutcomeText_any (o : Oc) (hl : bulkO o ≤ 1048576) (hm : MachO o) (A : Option Addr) (c : Nat) (A' : Option Addr) (c' : Nat) (w : World) (hR : OcR w o A A') (P : PTab w) :
    Calls Tryd.prog 10 #[ocV o A c A' c'] w (TxRet (outT o) w) := by
  have ET := fun W (h : Below w.heap.size w W) => endText_any o hm.val A c A' c' W (P.below h)
  unfold ocV TxRet at *
  have ET := fun W h => Lib.hid (ET W h)
  unfold bulkO at hl
  have K0 : BoxV (w.alloc (.cells #[.slice A o.said.length c, .int .i64 o.en, .int .i64 o.val, .slice A' o.cells.length c'] 27)) w.heap.size [.slice A o.said.length c, .int .i64 o.en, .int .i64 o.val, .slice A' o.cells.length c'] := BoxV.new w [.slice A o.said.length c, .int .i64 o.en, .int .i64 o.val, .slice A' o.cells.length c'] 27
  have hb0 : Below w.heap.size w (w.alloc (.cells #[.slice A o.said.length c, .int .i64 o.en, .int .i64 o.val, .slice A' o.cells.length c'] 27)) := (Below.refl _ _).alloc (Nat.le_refl _) _
  have hz0 : w.heap.size < (w.alloc (.cells #[.slice A o.said.length c, .int .i64 o.en, .int .i64 o.val, .slice A' o.cells.length c'] 27)).heap.size := by rw [World.size_alloc]; omega
  have HR := Lib.hid hR
  have HM := Lib.hid hm
  have HK0 := Lib.hid K0
  have HIT := Lib.hid (fun (n : Int) h0 h1 W (h : Below w.heap.size w W) => itoa_any n h0 h1 W (P.below h))
  clear hR hm K0 P
  go_enter Tryd.func10, Tryd.ntmps10
  go_upto_region 1 with (fail)
  generalize w.alloc (.cells #[.slice A o.said.length c, .int .i64 o.en, .int .i64 o.val, .slice A' o.cells.length c'] 27) = w0 at *
  have FB := Lib.fresh_isBuilder 57 5 w0
  have hbf : Below w0.heap.size w0 (w0.alloc (.cells #[.pointer none, .slice none 0 0] 57)) := (Below.refl _ _).alloc (Nat.le_refl _) _
  have hzf : (w0.alloc (.cells #[.pointer none, .slice none 0 0] 57)).heap.size = w0.heap.size + 1 := World.size_alloc _ _
  have k0 : (w0.alloc (.cells #[.pointer none, .slice none 0 0] 57)).cell? ⟨w.heap.size, 0, none⟩ = some (.slice A o.said.length c) := (HK0.out.below hbf (by omega)) 0 _ rfl
  have HFB := Lib.hid FB
  clear FB
  go_wp2_with fail
  generalize w0.alloc (.cells #[.pointer none, .slice none 0 0] 57) = w1 at *
  go_loopw [11] (fun i wr => ∃ k : Nat, k ≤ o.said.length ∧ i = .int .i64 k ∧ Lib.IsBuilder 57 5 w0.heap.size w0.heap.size (Lib.byteCells (saidT (o.said.take k))) wr ∧ Below w0.heap.size w0 wr ∧ w0.heap.size < wr.heap.size) (fun i _ => o.said.length - (intOf i).toNat)
  case atStart => exact ⟨0, Nat.zero_le _, rfl, HFB.out, hbf, by omega⟩
  case round =>
    clear HFB hbf k0 hzf
    obtain ⟨k, hk, rfl, hI, hbr, hlr⟩ := hrel
    have hb := hb0.trans (hbr.mono hb0.size)
    have hbs := hb.size
    by_cases hlk : k < o.said.length
    · obtain ⟨b, oo, rfl, hB, hc⟩ := (HR.out.1.below hb).at_ hlk
      have hmc := HM.out.said _ (List.getElem_mem hlk)
      have HN := Lib.hid (said_step hlk)
      have hbl := Lib.byteCells_length (saidT (o.said.take k))
      have hl1 := saidT_le (o.said.take k) (mach_take HM.out.said k)
      rw [List.length_take] at hl1
      have hti := tx_size (Lib.itoa o.said[k])
      have hi1 := itoa_le hmc.1 hmc.2
      have IT := HIT.out o.said[k] hmc.1 hmc.2 wr hb
      unfold TxRet at IT
      have IT := Lib.hid IT
      have HI := Lib.hid hI
      generalize Lib.byteCells (saidT (o.said.take k)) = bs at *
      generalize tx (Lib.itoa o.said[k]) = ti at *
      generalize o.said[k] = x at *
      have ht1 : bs.length ≤ 100000000 := by omega
      have ht2 : ti.size ≤ 20 := by omega
      have hts : (ti ++ ⟨#[32]⟩ : ByteArray).size = ti.size + 1 := ByteArray.size_append
      clear hti hl1 hi1 hI hmc hbl
      go_wp2_with fail
      (with_reducible refine Calls.mono IT.out ?_)
      rintro ee w2 ⟨rfl, hb1⟩
      have WS := Lib.hid (writeString_any w0.heap.size w0.heap.size bs (ti ++ ⟨#[32]⟩) w2 (isb_below HI.out hb1) (by omega) (by have := hb1.size; omega))
      have hb2 := hbr.trans (hb1.mono hbr.size)
      have hs2 := hb1.size
      clear hb1 hc hts
      go_wp2_with fail
      (with_reducible refine Calls.mono WS.out ?_)
      rintro ee w3 ⟨rfl, hI3, hb3⟩
      have HI3 := Lib.hid hI3
      have hb4 := hb2.trans hb3
      have hs3 := hb3.size
      clear hI3 hb3
      go_wp2_with fail
      go_roundw
      case rel => exact ⟨k + 1, by omega, by go_num, by rw [← HN.out]; exact .inr HI3.out, hb4, by omega⟩
      case measure => simp only [intOf]; omega
    · obtain rfl : k = o.said.length := by omega
      rw [List.take_length] at hI
      have K := HK0.out.below hbr (by omega)
      have j0 := K 0 _ rfl
      have j1 := K 1 _ rfl
      have j2 := K 2 _ rfl
      have j3 := K 3 _ rfl
      have HI := Lib.hid hI
      have ET1 := Lib.hid (ET wr hb).out
      have hbl := Lib.byteCells_length (saidT o.said)
      have hl1 := saidT_le o.said HM.out.said
      have hts := tx_size (endT o.en o.val)
      have hl2 := endT_le (en := o.en) HM.out.val.1 HM.out.val.2
      have HPRE := Lib.hid (show Lib.byteCells (saidT o.said) ++ Lib.strCells (tx (endT o.en o.val)) = Lib.byteCells (saidT o.said ++ endT o.en o.val ++ cellsT 0 (o.cells.take 0)) by
        rw [List.take_zero, show cellsT 0 [] = [] from rfl, List.append_nil, Lib.byteCells_append]; rfl)
      generalize Lib.byteCells (saidT o.said) = bs at *
      generalize tx (endT o.en o.val) = te at *
      have ht1 : bs.length ≤ 100000000 := by omega
      have ht2 : te.size ≤ 25 := by omega
      clear hbl hl1 hts hl2 hI K
      go_wp2_with fail
      (with_reducible refine Calls.mono ET1.out ?_)
      rintro ee w2 ⟨rfl, hb1⟩
      have WS := Lib.hid (writeString_any w0.heap.size w0.heap.size bs te w2 (isb_below HI.out hb1) (by omega) (by have := hb1.size; omega))
      have hb2 := hbr.trans (hb1.mono hbr.size)
      have hs2 := hb1.size
      clear hb1 j0 j1 j2
      go_wp2_with fail
      (with_reducible refine Calls.mono WS.out ?_)
      rintro ee w3 ⟨rfl, hI3, hb3⟩
      have HI3 := Lib.hid hI3
      have hb4 := hb2.trans hb3
      have hs3 := hb3.size
      have i3 := (HK0.out.below hb4 (by omega)) 3 _ rfl
      clear hI3 hb3 hb2 j3 hbr hb hbs
      go_wp2_with fail
      go_loopw [26] (fun i wx => ∃ k : Nat, k ≤ o.cells.length ∧ i = .int .i64 k ∧ Lib.IsBuilder 57 5 w0.heap.size w0.heap.size (Lib.byteCells (saidT o.said ++ endT o.en o.val ++ cellsT 0 (o.cells.take k))) wx ∧ Below w0.heap.size w0 wx ∧ w0.heap.size < wx.heap.size) (fun i _ => o.cells.length - (intOf i).toNat)
      case atStart => exact ⟨0, Nat.zero_le _, rfl, by rw [← HPRE.out]; exact .inr HI3.out, hb4, by omega⟩
      case round =>
        clear HI3 hb4 i3 HPRE hlr
        obtain ⟨k, hk, rfl, hI, hbr, hlr⟩ := hrel
        have hb := hb0.trans (hbr.mono hb0.size)
        have hbs := hb.size
        by_cases hlk : k < o.cells.length
        · obtain ⟨b, oo, rfl, hB, hc⟩ := (HR.out.2.below hb).at_ hlk
          have hmc := HM.out.cells _ (List.getElem_mem hlk)
          have HI := Lib.hid hI
          by_cases hz : o.cells[k] = 0
          · have e0 : (o.cells[k] != 0) = false := by rw [hz]; rfl
            have HN := Lib.hid (cellsT_no hlk hz)
            clear hI hz
            generalize o.cells[k] = x at *
            go_wp2_with fail
            go_roundw
            case rel => exact ⟨k + 1, by omega, by go_num, by rw [HN.out]; exact HI.out, hbr, hlr⟩
            case measure => simp only [intOf]; omega
          · have e0 : (o.cells[k] != 0) = true := by rw [bne, beq_no hz]; rfl
            have HN := Lib.hid (cells_step (p := saidT o.said ++ endT o.en o.val) hlk hz)
            have hbl := Lib.byteCells_length (saidT o.said ++ endT o.en o.val ++ cellsT 0 (o.cells.take k))
            have hl1 := cellsT_le (o.cells.take k) 0 (mach_take HM.out.cells k) (by rw [List.length_take]; omega)
            rw [List.length_take] at hl1
            have hl2 := saidT_le o.said HM.out.said
            have hl3 := endT_le (en := o.en) HM.out.val.1 HM.out.val.2
            rw [List.length_append, List.length_append] at hbl
            have hti := tx_size (Lib.itoa (k : Int))
            have hi1 := itoa_le (n := (k : Int)) (by omega) (by omega)
            have htc := tx_size (Lib.itoa o.cells[k])
            have hi2 := itoa_le hmc.1 hmc.2
            have I1 := HIT.out (k : Int) (by omega) (by omega) _ hb
            have I2 := fun W h => HIT.out o.cells[k] hmc.1 hmc.2 W h
            unfold TxRet at I1 I2
            have I1 := Lib.hid I1
            have I2 := fun W h => Lib.hid (I2 W h)
            generalize Lib.byteCells (saidT o.said ++ endT o.en o.val ++ cellsT 0 (o.cells.take k)) = bs at *
            generalize tx (Lib.itoa (k : Int)) = ti at *
            generalize tx (Lib.itoa o.cells[k]) = tc at *
            generalize hx : o.cells[k] = x at *
            have ht1 : bs.length ≤ 100000000 := by omega
            have ht2 : ti.size ≤ 20 := by omega
            have ht3 : tc.size ≤ 20 := by omega
            have hts : ((⟨#[32]⟩ : ByteArray) ++ ti ++ ⟨#[61]⟩ ++ tc).size ≤ 100 := by
              rw [ByteArray.size_append, ByteArray.size_append, ByteArray.size_append]
              show 1 + ti.size + 1 + tc.size ≤ 100
              omega
            have HTS := Lib.hid hts
            clear hti htc hl1 hl2 hl3 hi1 hi2 hI hz hx hmc hbl hts
            go_wp2_with fail
            (with_reducible refine Calls.mono I1.out ?_)
            rintro ee w4 ⟨rfl, hb5⟩
            have hb6 := hbr.trans (hb5.mono hbr.size)
            have I3 := Lib.hid (I2 w4 (hb0.trans (hb6.mono hb0.size))).out
            have HI4 := Lib.hid (isb_below HI.out hb5)
            have hs5 := hb5.size
            clear hb5 hc
            go_wp2_with fail
            (with_reducible refine Calls.mono I3.out ?_)
            rintro ee w5 ⟨rfl, hb7⟩
            have hb8 := hb6.trans (hb7.mono hb6.size)
            have hs7 := hb7.size
            have WS := Lib.hid (writeString_any w0.heap.size w0.heap.size bs ((⟨#[32]⟩ : ByteArray) ++ ti ++ ⟨#[61]⟩ ++ tc) w5 (isb_below HI4.out hb7) (by have := HTS.out; omega) (by omega))
            clear hb7
            go_wp2_with fail
            (with_reducible refine Calls.mono WS.out ?_)
            rintro ee w6 ⟨rfl, hI6, hb9⟩
            have HI6 := Lib.hid hI6
            have hb10 := hb8.trans hb9
            have hs9 := hb9.size
            clear hI6 hb9
            go_wp2_with fail
            go_roundw
            case rel => exact ⟨k + 1, by omega, by go_num, by rw [← HN.out]; exact .inr HI6.out, hb10, by omega⟩
            case measure => simp only [intOf]; omega
        · obtain rfl : k = o.cells.length := by omega
          rw [List.take_length] at hI
          have SR := Lib.hid (Tryd.Builder_String w0.heap.size w0.heap.size (saidT o.said ++ endT o.en o.val ++ cellsT 0 o.cells) _ hI (by
            have h := outT_ne o
            unfold outT at h
            rw [List.append_assoc]; exact h))
          clear hI
          go_wp2_with fail
          (with_reducible refine Calls.mono SR.out ?_)
          rintro ee w7 ⟨rfl, hb11⟩
          have hb12 := hb0.trans ((hbr.trans hb11).mono hb0.size)
          go_wp2_with fail
          go_ret
          exact ⟨by unfold outT; rfl, hb12⟩
end Go.Proofs.YtkhcfhhejmkikaaDoor
