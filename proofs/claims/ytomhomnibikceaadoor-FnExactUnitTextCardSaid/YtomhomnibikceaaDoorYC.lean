/-
  The lines of a unit's text, as the program writes them into a builder.
-/
import Derived.Test.YtomhomnibikceaaDoorYB
namespace Go.Proofs.YtomhomnibikceaaDoor
open Go.RowKit
set_option maxRecDepth 100000

set_option maxHeartbeats 4000000 in
theorem writePhi_any (B b : Nat) (bs : List UInt8) (p : Ph) (v : Value) (w : World) (hp : OkPh p) (hE : TE B w) (hW : Wr B b bs w) (hV : PhV w (Lt B) p v) (hl : bs.length ≤ 90000000000) (hn : p.args.length ≤ 1048576) :
    Calls Tryd.prog 55 #[.pointer (some ⟨b, 0, none⟩), v] w (Wrote B b bs (phiT p) w) := by
  obtain ⟨A, c, rfl, hR⟩ := hV
  have HR := Lib.hid (fun W (h : Below B w W) => hR.on h (Nat.le_trans hE.le h.size))
  have hbb := hW.lt
  have hBb := hW.le
  have hKb : w.heap.size ≠ b := by omega
  have K0 := Lib.hid (Bx.new w 58 #[.int .i64 p.to, .slice A p.args.length c])
  have hal := (Below.refl w.heap.size w).alloc (Nat.le_refl _) (.cells #[.int .i64 p.to, .slice A p.args.length c] 58)
  have hE_ := hE.le
  have hb_0 := hal.mono hE_
  have hE_0 := Nat.le_trans hE_ hal.size
  have HA0 := Lib.hid (Aside.of_below (b := b) hal)
  have HW0 := Lib.hid (hW.below hal)
  have HE := Lib.hid hE
  clear hE hW hal
  have hto := itoaS hp.to
  have hag := regsT_le hp.args
  have HLEN := Lib.hid (show bs.length ≤ 90000000000 ∧ (Lib.itoa p.to).length ≤ 20 ∧ (catT regT p.args).length ≤ 22 * p.args.length ∧ p.args.length ≤ 1048576 from ⟨hl, hto, hag, hn⟩)
  have HP := Lib.hid hp
  have hto2 : (114 :: Lib.itoa p.to).length ≤ 21 := by rw [List.length_cons]; omega
  clear hR hag
  go_enter Tryd.func55, Tryd.ntmps55
  go_wp2_with fail
  generalize w.alloc (.cells #[.int .i64 p.to, .slice A p.args.length c] 58) = w0 at *
  have cK0_0 := show w0.cell? ⟨w.heap.size, 0, none⟩ = some (.int .i64 p.to) from (K0.out.cell 0).trans rfl
  have cK0_1 := show w0.cell? ⟨w.heap.size, 1, none⟩ = some (.slice A p.args.length c) from (K0.out.cell 1).trans rfl
  have C0 := Lib.hid (regText_any B p.to HP.out.to w0 (HE.out.next hb_0))
  have hz := tx_size (114 :: Lib.itoa p.to)
  obtain ⟨t, Et⟩ : ∃ x, x = tx (114 :: Lib.itoa p.to) := ⟨_, rfl⟩
  unfold TxRet at C0
  rw [← Et] at C0 hz
  have hst : t.size ≤ 21 := by omega
  have HEt := Lib.hid Et
  clear Et hz hto2 hto
  (with_reducible refine Calls.mono C0.out ?_)
  rintro ee w1 ⟨rfl, hbn⟩
  have hb_1 := hb_0.trans (hbn.mono hE_0)
  have hE_1 := Nat.le_trans hE_0 hbn.size
  have HA1 := Lib.hid (HA0.out.trans (Aside.of_below hbn))
  have HW1 := Lib.hid (HW0.out.below hbn)
  have K1 := Lib.hid (K0.out.below hbn)
  clear hbn cK0_0 cK0_1 HA0 HW0 K0
  have cK1_0 := show w1.cell? ⟨w.heap.size, 0, none⟩ = some (.int .i64 p.to) from (K1.out.cell 0).trans rfl
  have cK1_1 := show w1.cell? ⟨w.heap.size, 1, none⟩ = some (.slice A p.args.length c) from (K1.out.cell 1).trans rfl
  have S1 := Lib.hid (ws_any B b (bs) ((114 :: Lib.itoa p.to) ++ [32, 61, 32, 112, 104, 105]) (t ++ ⟨#[32, 61, 32, 112, 104, 105]⟩) (by rw [HEt.out, show (⟨#[32, 61, 32, 112, 104, 105]⟩ : ByteArray) = tx [32, 61, 32, 112, 104, 105] from rfl, tx_app]) w1 HW1.out (by have := HLEN.out; simp only [List.length_append, List.length_cons, List.length_nil] at *; omega) hE_1)
  go_wp2_with fail
  (with_reducible refine Calls.mono S1.out ?_)
  rintro ee w2 ⟨rfl, hwn, hbn, han⟩
  have hb_2 := hb_1.trans hbn
  have hE_2 := Nat.le_trans hE_1 hbn.size
  have HA2 := Lib.hid (HA1.out.trans han)
  have HW2 := Lib.hid hwn
  have K2 := Lib.hid (K1.out.aside han (by decide) hKb)
  clear hwn hbn han cK1_0 cK1_1 HA1 HW1 K1
  have cK2_0 := show w2.cell? ⟨w.heap.size, 0, none⟩ = some (.int .i64 p.to) from (K2.out.cell 0).trans rfl
  have cK2_1 := show w2.cell? ⟨w.heap.size, 1, none⟩ = some (.slice A p.args.length c) from (K2.out.cell 1).trans rfl
  have S2 := Lib.hid (writeRegs_any B b (bs ++ ((114 :: Lib.itoa p.to) ++ [32, 61, 32, 112, 104, 105])) p.args HP.out.args A c w2 (HE.out.next hb_2) HW2.out (fun W h _ => HR.out W (hb_2.trans h)) (by have := HLEN.out; simp only [List.length_append, List.length_cons, List.length_nil] at *; omega) hn)
  go_wp2_with fail
  (with_reducible refine Calls.mono S2.out ?_)
  rintro ee w3 hret
  obtain ⟨rfl, hwn, hbn, han⟩ := hret
  have hb_3 := hb_2.trans hbn
  have hE_3 := Nat.le_trans hE_2 hbn.size
  have HA3 := Lib.hid (HA2.out.trans han)
  have HW3 := Lib.hid hwn
  have K3 := Lib.hid (K2.out.aside han (by decide) hKb)
  clear hwn hbn han cK2_0 cK2_1 HA2 HW2 K2
  have cK3_0 := show w3.cell? ⟨w.heap.size, 0, none⟩ = some (.int .i64 p.to) from (K3.out.cell 0).trans rfl
  have cK3_1 := show w3.cell? ⟨w.heap.size, 1, none⟩ = some (.slice A p.args.length c) from (K3.out.cell 1).trans rfl
  have S3 := Lib.hid (ws_any B b (bs ++ ((114 :: Lib.itoa p.to) ++ [32, 61, 32, 112, 104, 105]) ++ catT regT p.args) ([10]) (⟨#[10]⟩) (rfl) w3 HW3.out (by have := HLEN.out; simp only [List.length_append, List.length_cons, List.length_nil] at *; omega) hE_3)
  go_wp2_with fail
  (with_reducible refine Calls.mono S3.out ?_)
  rintro ee w4 ⟨rfl, hwn, hbn, han⟩
  have hb_4 := hb_3.trans hbn
  have hE_4 := Nat.le_trans hE_3 hbn.size
  have HA4 := Lib.hid (HA3.out.trans han)
  have HW4 := Lib.hid hwn
  have K4 := Lib.hid (K3.out.aside han (by decide) hKb)
  clear hwn hbn han cK3_0 cK3_1 HA3 HW3 K3
  have cK4_0 := show w4.cell? ⟨w.heap.size, 0, none⟩ = some (.int .i64 p.to) from (K4.out.cell 0).trans rfl
  have cK4_1 := show w4.cell? ⟨w.heap.size, 1, none⟩ = some (.slice A p.args.length c) from (K4.out.cell 1).trans rfl
  go_wp2_with fail
  go_end0
  exact ⟨rfl, by have h := HW4.out; unfold phiT; simpa using h, hb_4, HA4.out⟩
set_option maxHeartbeats 8000000 in
theorem writeIns_any (B b : Nat) (bs : List UInt8) (x : Ik) (v : Value) (w : World) (hp : OkIk x) (hE : TE B w) (hW : Wr B b bs w) (hV : IkV w (Lt B) x v) (hl : bs.length ≤ 90000000000) (hn : x.args.length ≤ 1048576) :
    Calls Tryd.prog 56 #[.pointer (some ⟨b, 0, none⟩), v] w (Wrote B b bs (insTx x) w) := by
  obtain ⟨A, c, rfl, hR⟩ := hV
  have HR := Lib.hid (fun W (h : Below B w W) => hR.on h (Nat.le_trans hE.le h.size))
  have hbb := hW.lt
  have hBb := hW.le
  have hKb : w.heap.size ≠ b := by omega
  have K0 := Lib.hid (Bx.new w 62 #[.int .i64 x.op, .int .i64 x.to, .slice A x.args.length c, .int .i64 x.n])
  have hal := (Below.refl w.heap.size w).alloc (Nat.le_refl _) (.cells #[.int .i64 x.op, .int .i64 x.to, .slice A x.args.length c, .int .i64 x.n] 62)
  have hE_ := hE.le
  have hb_0 := hal.mono hE_
  have hE_0 := Nat.le_trans hE_ hal.size
  have HA0 := Lib.hid (Aside.of_below (b := b) hal)
  have HW0 := Lib.hid (hW.below hal)
  have HE := Lib.hid hE
  clear hE hW hal
  have hto := itoaS hp.to
  have hnn := itoaS hp.n
  have hag := regsT_le hp.args
  have hnm := iNm_le x.op
  have HLEN := Lib.hid (show bs.length ≤ 90000000000 ∧ (Lib.itoa x.to).length ≤ 20 ∧ (Lib.itoa x.n).length ≤ 20 ∧ (iNm x.op).length ≤ 4 ∧ (catT regT x.args).length ≤ 22 * x.args.length ∧ x.args.length ≤ 1048576 from ⟨hl, hto, hnn, hnm, hag, hn⟩)
  have HP := Lib.hid hp
  have hto2 : (114 :: Lib.itoa x.to).length ≤ 21 := by rw [List.length_cons]; omega
  clear hR hag hnm
  have IF := insForm_any x.op _ (HE.out.tabs _ hb_0).2.1
  unfold insV VB at IF
  have HNM := Lib.hid (show iName x.op = tx (iNm x.op) from rfl)
  generalize iName x.op = nm at *
  generalize iArgs x.op = ar at *
  have hlast : ∀ mk tl, iMakes x.op = mk → iTells x.op = tl → insTx x = (if mk then 114 :: (Lib.itoa x.to ++ [32, 61, 32]) else []) ++ (iNm x.op ++ ((if tl then 32 :: Lib.itoa x.n else []) ++ (catT regT x.args ++ [10]))) := by rintro _ _ rfl rfl; rfl
  have hmk : ∃ mk, iMakes x.op = mk := ⟨_, rfl⟩
  have htl : ∃ tl, iTells x.op = tl := ⟨_, rfl⟩
  obtain ⟨mk, hmk⟩ := hmk
  obtain ⟨tl, htl⟩ := htl
  rw [hmk, htl] at IF
  have HLAST := Lib.hid (hlast mk tl hmk htl)
  replace IF := Lib.hid IF
  clear hlast hmk htl
  cases mk <;> cases tl
  · go_enter Tryd.func56, Tryd.ntmps56
    have cK0_0 := show (w.alloc (.cells #[.int .i64 x.op, .int .i64 x.to, .slice A x.args.length c, .int .i64 x.n] 62)).cell? ⟨w.heap.size, 0, none⟩ = some (.int .i64 x.op) from (K0.out.cell 0).trans rfl
    have cK0_1 := show (w.alloc (.cells #[.int .i64 x.op, .int .i64 x.to, .slice A x.args.length c, .int .i64 x.n] 62)).cell? ⟨w.heap.size, 1, none⟩ = some (.int .i64 x.to) from (K0.out.cell 1).trans rfl
    have cK0_2 := show (w.alloc (.cells #[.int .i64 x.op, .int .i64 x.to, .slice A x.args.length c, .int .i64 x.n] 62)).cell? ⟨w.heap.size, 2, none⟩ = some (.slice A x.args.length c) from (K0.out.cell 2).trans rfl
    have cK0_3 := show (w.alloc (.cells #[.int .i64 x.op, .int .i64 x.to, .slice A x.args.length c, .int .i64 x.n] 62)).cell? ⟨w.heap.size, 3, none⟩ = some (.int .i64 x.n) from (K0.out.cell 3).trans rfl
    go_wp2_with fail
    generalize w.alloc (.cells #[.int .i64 x.op, .int .i64 x.to, .slice A x.args.length c, .int .i64 x.n] 62) = w0 at *
    (with_reducible refine Calls.mono IF.out ?_)
    rintro ee w1 ⟨rfl, hbn⟩
    have hb_1 := hb_0.trans (hbn.mono hE_0)
    have hE_1 := Nat.le_trans hE_0 hbn.size
    have HA1 := Lib.hid (HA0.out.trans (Aside.of_below hbn))
    have HW1 := Lib.hid (HW0.out.below hbn)
    have K1 := Lib.hid (K0.out.below hbn)
    clear hbn cK0_0 cK0_1 cK0_2 cK0_3 HA0 HW0 K0
    have cK1_0 := show w1.cell? ⟨w.heap.size, 0, none⟩ = some (.int .i64 x.op) from (K1.out.cell 0).trans rfl
    have cK1_1 := show w1.cell? ⟨w.heap.size, 1, none⟩ = some (.int .i64 x.to) from (K1.out.cell 1).trans rfl
    have cK1_2 := show w1.cell? ⟨w.heap.size, 2, none⟩ = some (.slice A x.args.length c) from (K1.out.cell 2).trans rfl
    have cK1_3 := show w1.cell? ⟨w.heap.size, 3, none⟩ = some (.int .i64 x.n) from (K1.out.cell 3).trans rfl
    have hal := (Below.refl w1.heap.size w1).alloc (Nat.le_refl _) (.cells #[.string nm, .bool false, .bool false, .int .i64 ar] 117)
    have F2 := Lib.hid (Bx.new w1 117 #[.string nm, .bool false, .bool false, .int .i64 ar])
    have hFb : w1.heap.size ≠ b := by have := HW1.out.lt; omega
    have hb_2 := hb_1.trans (hal.mono hE_1)
    have hE_2 := Nat.le_trans hE_1 hal.size
    have HA2 := Lib.hid (HA1.out.trans (Aside.of_below hal))
    have HW2 := Lib.hid (HW1.out.below hal)
    have K2 := Lib.hid (K1.out.below hal)
    clear hal cK1_0 cK1_1 cK1_2 cK1_3 HA1 HW1 K1
    have cK2_0 := show (w1.alloc (.cells #[.string nm, .bool false, .bool false, .int .i64 ar] 117)).cell? ⟨w.heap.size, 0, none⟩ = some (.int .i64 x.op) from (K2.out.cell 0).trans rfl
    have cK2_1 := show (w1.alloc (.cells #[.string nm, .bool false, .bool false, .int .i64 ar] 117)).cell? ⟨w.heap.size, 1, none⟩ = some (.int .i64 x.to) from (K2.out.cell 1).trans rfl
    have cK2_2 := show (w1.alloc (.cells #[.string nm, .bool false, .bool false, .int .i64 ar] 117)).cell? ⟨w.heap.size, 2, none⟩ = some (.slice A x.args.length c) from (K2.out.cell 2).trans rfl
    have cK2_3 := show (w1.alloc (.cells #[.string nm, .bool false, .bool false, .int .i64 ar] 117)).cell? ⟨w.heap.size, 3, none⟩ = some (.int .i64 x.n) from (K2.out.cell 3).trans rfl
    have cF2_0 := show (w1.alloc (.cells #[.string nm, .bool false, .bool false, .int .i64 ar] 117)).cell? ⟨w1.heap.size, 0, none⟩ = some (.string nm) from (F2.out.cell 0).trans rfl
    have cF2_1 := show (w1.alloc (.cells #[.string nm, .bool false, .bool false, .int .i64 ar] 117)).cell? ⟨w1.heap.size, 1, none⟩ = some (.bool false) from (F2.out.cell 1).trans rfl
    have cF2_2 := show (w1.alloc (.cells #[.string nm, .bool false, .bool false, .int .i64 ar] 117)).cell? ⟨w1.heap.size, 2, none⟩ = some (.bool false) from (F2.out.cell 2).trans rfl
    have cF2_3 := show (w1.alloc (.cells #[.string nm, .bool false, .bool false, .int .i64 ar] 117)).cell? ⟨w1.heap.size, 3, none⟩ = some (.int .i64 ar) from (F2.out.cell 3).trans rfl
    have S2 := Lib.hid (ws_any B b bs (iNm x.op) nm HNM.out _ HW2.out (by have := HLEN.out; omega) hE_2)
    go_wp2_with fail
    generalize w1.alloc (.cells #[.string nm, .bool false, .bool false, .int .i64 ar] 117) = w2 at *
    (with_reducible refine Calls.mono S2.out ?_)
    rintro ee w3 ⟨rfl, hwn, hbn, han⟩
    have hb_3 := hb_2.trans hbn
    have hE_3 := Nat.le_trans hE_2 hbn.size
    have HA3 := Lib.hid (HA2.out.trans han)
    have HW3 := Lib.hid hwn
    have K3 := Lib.hid (K2.out.aside han (by decide) hKb)
    have F3 := Lib.hid (F2.out.aside han (by decide) hFb)
    clear hwn hbn han cK2_0 cK2_1 cK2_2 cK2_3 cF2_0 cF2_1 cF2_2 cF2_3 HA2 HW2 K2 F2
    have cK3_0 := show w3.cell? ⟨w.heap.size, 0, none⟩ = some (.int .i64 x.op) from (K3.out.cell 0).trans rfl
    have cK3_1 := show w3.cell? ⟨w.heap.size, 1, none⟩ = some (.int .i64 x.to) from (K3.out.cell 1).trans rfl
    have cK3_2 := show w3.cell? ⟨w.heap.size, 2, none⟩ = some (.slice A x.args.length c) from (K3.out.cell 2).trans rfl
    have cK3_3 := show w3.cell? ⟨w.heap.size, 3, none⟩ = some (.int .i64 x.n) from (K3.out.cell 3).trans rfl
    have cF3_0 := show w3.cell? ⟨w1.heap.size, 0, none⟩ = some (.string nm) from (F3.out.cell 0).trans rfl
    have cF3_1 := show w3.cell? ⟨w1.heap.size, 1, none⟩ = some (.bool false) from (F3.out.cell 1).trans rfl
    have cF3_2 := show w3.cell? ⟨w1.heap.size, 2, none⟩ = some (.bool false) from (F3.out.cell 2).trans rfl
    have cF3_3 := show w3.cell? ⟨w1.heap.size, 3, none⟩ = some (.int .i64 ar) from (F3.out.cell 3).trans rfl
    have S3 := Lib.hid (writeRegs_any B b (bs ++ iNm x.op) x.args HP.out.args A c w3 (HE.out.next hb_3) HW3.out (fun W h _ => HR.out W (hb_3.trans h)) (by have := HLEN.out; simp only [List.length_append, List.length_cons, List.length_nil] at *; omega) hn)
    go_wp2_with fail
    (with_reducible refine Calls.mono S3.out ?_)
    rintro ee w4 hret
    obtain ⟨rfl, hwn, hbn, han⟩ := hret
    have hb_4 := hb_3.trans hbn
    have hE_4 := Nat.le_trans hE_3 hbn.size
    have HA4 := Lib.hid (HA3.out.trans han)
    have HW4 := Lib.hid hwn
    have K4 := Lib.hid (K3.out.aside han (by decide) hKb)
    have F4 := Lib.hid (F3.out.aside han (by decide) hFb)
    clear hwn hbn han cK3_0 cK3_1 cK3_2 cK3_3 cF3_0 cF3_1 cF3_2 cF3_3 HA3 HW3 K3 F3
    have cK4_0 := show w4.cell? ⟨w.heap.size, 0, none⟩ = some (.int .i64 x.op) from (K4.out.cell 0).trans rfl
    have cK4_1 := show w4.cell? ⟨w.heap.size, 1, none⟩ = some (.int .i64 x.to) from (K4.out.cell 1).trans rfl
    have cK4_2 := show w4.cell? ⟨w.heap.size, 2, none⟩ = some (.slice A x.args.length c) from (K4.out.cell 2).trans rfl
    have cK4_3 := show w4.cell? ⟨w.heap.size, 3, none⟩ = some (.int .i64 x.n) from (K4.out.cell 3).trans rfl
    have cF4_0 := show w4.cell? ⟨w1.heap.size, 0, none⟩ = some (.string nm) from (F4.out.cell 0).trans rfl
    have cF4_1 := show w4.cell? ⟨w1.heap.size, 1, none⟩ = some (.bool false) from (F4.out.cell 1).trans rfl
    have cF4_2 := show w4.cell? ⟨w1.heap.size, 2, none⟩ = some (.bool false) from (F4.out.cell 2).trans rfl
    have cF4_3 := show w4.cell? ⟨w1.heap.size, 3, none⟩ = some (.int .i64 ar) from (F4.out.cell 3).trans rfl
    have S4 := Lib.hid (ws_any B b (bs ++ iNm x.op ++ catT regT x.args) ([10]) (⟨#[10]⟩) (rfl) w4 HW4.out (by have := HLEN.out; simp only [List.length_append, List.length_cons, List.length_nil] at *; omega) hE_4)
    go_wp2_with fail
    (with_reducible refine Calls.mono S4.out ?_)
    rintro ee w5 ⟨rfl, hwn, hbn, han⟩
    have hb_5 := hb_4.trans hbn
    have hE_5 := Nat.le_trans hE_4 hbn.size
    have HA5 := Lib.hid (HA4.out.trans han)
    have HW5 := Lib.hid hwn
    have K5 := Lib.hid (K4.out.aside han (by decide) hKb)
    have F5 := Lib.hid (F4.out.aside han (by decide) hFb)
    clear hwn hbn han cK4_0 cK4_1 cK4_2 cK4_3 cF4_0 cF4_1 cF4_2 cF4_3 HA4 HW4 K4 F4
    have cK5_0 := show w5.cell? ⟨w.heap.size, 0, none⟩ = some (.int .i64 x.op) from (K5.out.cell 0).trans rfl
    have cK5_1 := show w5.cell? ⟨w.heap.size, 1, none⟩ = some (.int .i64 x.to) from (K5.out.cell 1).trans rfl
    have cK5_2 := show w5.cell? ⟨w.heap.size, 2, none⟩ = some (.slice A x.args.length c) from (K5.out.cell 2).trans rfl
    have cK5_3 := show w5.cell? ⟨w.heap.size, 3, none⟩ = some (.int .i64 x.n) from (K5.out.cell 3).trans rfl
    have cF5_0 := show w5.cell? ⟨w1.heap.size, 0, none⟩ = some (.string nm) from (F5.out.cell 0).trans rfl
    have cF5_1 := show w5.cell? ⟨w1.heap.size, 1, none⟩ = some (.bool false) from (F5.out.cell 1).trans rfl
    have cF5_2 := show w5.cell? ⟨w1.heap.size, 2, none⟩ = some (.bool false) from (F5.out.cell 2).trans rfl
    have cF5_3 := show w5.cell? ⟨w1.heap.size, 3, none⟩ = some (.int .i64 ar) from (F5.out.cell 3).trans rfl
    go_wp2_with fail
    go_end0
    exact ⟨rfl, by have h := HW5.out; rw [HLAST.out]; simpa using h, hb_5, HA5.out⟩
  · go_enter Tryd.func56, Tryd.ntmps56
    have cK0_0 := show (w.alloc (.cells #[.int .i64 x.op, .int .i64 x.to, .slice A x.args.length c, .int .i64 x.n] 62)).cell? ⟨w.heap.size, 0, none⟩ = some (.int .i64 x.op) from (K0.out.cell 0).trans rfl
    have cK0_1 := show (w.alloc (.cells #[.int .i64 x.op, .int .i64 x.to, .slice A x.args.length c, .int .i64 x.n] 62)).cell? ⟨w.heap.size, 1, none⟩ = some (.int .i64 x.to) from (K0.out.cell 1).trans rfl
    have cK0_2 := show (w.alloc (.cells #[.int .i64 x.op, .int .i64 x.to, .slice A x.args.length c, .int .i64 x.n] 62)).cell? ⟨w.heap.size, 2, none⟩ = some (.slice A x.args.length c) from (K0.out.cell 2).trans rfl
    have cK0_3 := show (w.alloc (.cells #[.int .i64 x.op, .int .i64 x.to, .slice A x.args.length c, .int .i64 x.n] 62)).cell? ⟨w.heap.size, 3, none⟩ = some (.int .i64 x.n) from (K0.out.cell 3).trans rfl
    go_wp2_with fail
    generalize w.alloc (.cells #[.int .i64 x.op, .int .i64 x.to, .slice A x.args.length c, .int .i64 x.n] 62) = w0 at *
    (with_reducible refine Calls.mono IF.out ?_)
    rintro ee w1 ⟨rfl, hbn⟩
    have hb_1 := hb_0.trans (hbn.mono hE_0)
    have hE_1 := Nat.le_trans hE_0 hbn.size
    have HA1 := Lib.hid (HA0.out.trans (Aside.of_below hbn))
    have HW1 := Lib.hid (HW0.out.below hbn)
    have K1 := Lib.hid (K0.out.below hbn)
    clear hbn cK0_0 cK0_1 cK0_2 cK0_3 HA0 HW0 K0
    have cK1_0 := show w1.cell? ⟨w.heap.size, 0, none⟩ = some (.int .i64 x.op) from (K1.out.cell 0).trans rfl
    have cK1_1 := show w1.cell? ⟨w.heap.size, 1, none⟩ = some (.int .i64 x.to) from (K1.out.cell 1).trans rfl
    have cK1_2 := show w1.cell? ⟨w.heap.size, 2, none⟩ = some (.slice A x.args.length c) from (K1.out.cell 2).trans rfl
    have cK1_3 := show w1.cell? ⟨w.heap.size, 3, none⟩ = some (.int .i64 x.n) from (K1.out.cell 3).trans rfl
    have hal := (Below.refl w1.heap.size w1).alloc (Nat.le_refl _) (.cells #[.string nm, .bool false, .bool true, .int .i64 ar] 117)
    have F2 := Lib.hid (Bx.new w1 117 #[.string nm, .bool false, .bool true, .int .i64 ar])
    have hFb : w1.heap.size ≠ b := by have := HW1.out.lt; omega
    have hb_2 := hb_1.trans (hal.mono hE_1)
    have hE_2 := Nat.le_trans hE_1 hal.size
    have HA2 := Lib.hid (HA1.out.trans (Aside.of_below hal))
    have HW2 := Lib.hid (HW1.out.below hal)
    have K2 := Lib.hid (K1.out.below hal)
    clear hal cK1_0 cK1_1 cK1_2 cK1_3 HA1 HW1 K1
    have cK2_0 := show (w1.alloc (.cells #[.string nm, .bool false, .bool true, .int .i64 ar] 117)).cell? ⟨w.heap.size, 0, none⟩ = some (.int .i64 x.op) from (K2.out.cell 0).trans rfl
    have cK2_1 := show (w1.alloc (.cells #[.string nm, .bool false, .bool true, .int .i64 ar] 117)).cell? ⟨w.heap.size, 1, none⟩ = some (.int .i64 x.to) from (K2.out.cell 1).trans rfl
    have cK2_2 := show (w1.alloc (.cells #[.string nm, .bool false, .bool true, .int .i64 ar] 117)).cell? ⟨w.heap.size, 2, none⟩ = some (.slice A x.args.length c) from (K2.out.cell 2).trans rfl
    have cK2_3 := show (w1.alloc (.cells #[.string nm, .bool false, .bool true, .int .i64 ar] 117)).cell? ⟨w.heap.size, 3, none⟩ = some (.int .i64 x.n) from (K2.out.cell 3).trans rfl
    have cF2_0 := show (w1.alloc (.cells #[.string nm, .bool false, .bool true, .int .i64 ar] 117)).cell? ⟨w1.heap.size, 0, none⟩ = some (.string nm) from (F2.out.cell 0).trans rfl
    have cF2_1 := show (w1.alloc (.cells #[.string nm, .bool false, .bool true, .int .i64 ar] 117)).cell? ⟨w1.heap.size, 1, none⟩ = some (.bool false) from (F2.out.cell 1).trans rfl
    have cF2_2 := show (w1.alloc (.cells #[.string nm, .bool false, .bool true, .int .i64 ar] 117)).cell? ⟨w1.heap.size, 2, none⟩ = some (.bool true) from (F2.out.cell 2).trans rfl
    have cF2_3 := show (w1.alloc (.cells #[.string nm, .bool false, .bool true, .int .i64 ar] 117)).cell? ⟨w1.heap.size, 3, none⟩ = some (.int .i64 ar) from (F2.out.cell 3).trans rfl
    have S2 := Lib.hid (ws_any B b bs (iNm x.op) nm HNM.out _ HW2.out (by have := HLEN.out; omega) hE_2)
    go_wp2_with fail
    generalize w1.alloc (.cells #[.string nm, .bool false, .bool true, .int .i64 ar] 117) = w2 at *
    (with_reducible refine Calls.mono S2.out ?_)
    rintro ee w3 ⟨rfl, hwn, hbn, han⟩
    have hb_3 := hb_2.trans hbn
    have hE_3 := Nat.le_trans hE_2 hbn.size
    have HA3 := Lib.hid (HA2.out.trans han)
    have HW3 := Lib.hid hwn
    have K3 := Lib.hid (K2.out.aside han (by decide) hKb)
    have F3 := Lib.hid (F2.out.aside han (by decide) hFb)
    clear hwn hbn han cK2_0 cK2_1 cK2_2 cK2_3 cF2_0 cF2_1 cF2_2 cF2_3 HA2 HW2 K2 F2
    have cK3_0 := show w3.cell? ⟨w.heap.size, 0, none⟩ = some (.int .i64 x.op) from (K3.out.cell 0).trans rfl
    have cK3_1 := show w3.cell? ⟨w.heap.size, 1, none⟩ = some (.int .i64 x.to) from (K3.out.cell 1).trans rfl
    have cK3_2 := show w3.cell? ⟨w.heap.size, 2, none⟩ = some (.slice A x.args.length c) from (K3.out.cell 2).trans rfl
    have cK3_3 := show w3.cell? ⟨w.heap.size, 3, none⟩ = some (.int .i64 x.n) from (K3.out.cell 3).trans rfl
    have cF3_0 := show w3.cell? ⟨w1.heap.size, 0, none⟩ = some (.string nm) from (F3.out.cell 0).trans rfl
    have cF3_1 := show w3.cell? ⟨w1.heap.size, 1, none⟩ = some (.bool false) from (F3.out.cell 1).trans rfl
    have cF3_2 := show w3.cell? ⟨w1.heap.size, 2, none⟩ = some (.bool true) from (F3.out.cell 2).trans rfl
    have cF3_3 := show w3.cell? ⟨w1.heap.size, 3, none⟩ = some (.int .i64 ar) from (F3.out.cell 3).trans rfl
    have C3 := Lib.hid (itoa_te B x.n HP.out.n w3 (HE.out.next hb_3))
    have hz := tx_size (Lib.itoa x.n)
    obtain ⟨u, Eu⟩ : ∃ y, y = tx (Lib.itoa x.n) := ⟨_, rfl⟩
    unfold TxRet at C3
    rw [← Eu] at C3 hz
    have hsu : u.size ≤ 20 := by omega
    have HEu := Lib.hid Eu
    clear Eu hz hnn
    go_wp2_with fail
    (with_reducible refine Calls.mono C3.out ?_)
    rintro ee w4 ⟨rfl, hbn⟩
    have hb_4 := hb_3.trans (hbn.mono hE_3)
    have hE_4 := Nat.le_trans hE_3 hbn.size
    have HA4 := Lib.hid (HA3.out.trans (Aside.of_below hbn))
    have HW4 := Lib.hid (HW3.out.below hbn)
    have K4 := Lib.hid (K3.out.below hbn)
    have F4 := Lib.hid (F3.out.below hbn)
    clear hbn cK3_0 cK3_1 cK3_2 cK3_3 cF3_0 cF3_1 cF3_2 cF3_3 HA3 HW3 K3 F3
    have cK4_0 := show w4.cell? ⟨w.heap.size, 0, none⟩ = some (.int .i64 x.op) from (K4.out.cell 0).trans rfl
    have cK4_1 := show w4.cell? ⟨w.heap.size, 1, none⟩ = some (.int .i64 x.to) from (K4.out.cell 1).trans rfl
    have cK4_2 := show w4.cell? ⟨w.heap.size, 2, none⟩ = some (.slice A x.args.length c) from (K4.out.cell 2).trans rfl
    have cK4_3 := show w4.cell? ⟨w.heap.size, 3, none⟩ = some (.int .i64 x.n) from (K4.out.cell 3).trans rfl
    have cF4_0 := show w4.cell? ⟨w1.heap.size, 0, none⟩ = some (.string nm) from (F4.out.cell 0).trans rfl
    have cF4_1 := show w4.cell? ⟨w1.heap.size, 1, none⟩ = some (.bool false) from (F4.out.cell 1).trans rfl
    have cF4_2 := show w4.cell? ⟨w1.heap.size, 2, none⟩ = some (.bool true) from (F4.out.cell 2).trans rfl
    have cF4_3 := show w4.cell? ⟨w1.heap.size, 3, none⟩ = some (.int .i64 ar) from (F4.out.cell 3).trans rfl
    have S4 := Lib.hid (ws_any B b (bs ++ iNm x.op) (32 :: Lib.itoa x.n) (⟨#[32]⟩ ++ u) (by rw [HEu.out]; exact tx_cons 32 _) w4 HW4.out (by have := HLEN.out; simp only [List.length_append, List.length_cons, List.length_nil] at *; omega) hE_4)
    go_wp2_with fail
    (with_reducible refine Calls.mono S4.out ?_)
    rintro ee w5 ⟨rfl, hwn, hbn, han⟩
    have hb_5 := hb_4.trans hbn
    have hE_5 := Nat.le_trans hE_4 hbn.size
    have HA5 := Lib.hid (HA4.out.trans han)
    have HW5 := Lib.hid hwn
    have K5 := Lib.hid (K4.out.aside han (by decide) hKb)
    have F5 := Lib.hid (F4.out.aside han (by decide) hFb)
    clear hwn hbn han cK4_0 cK4_1 cK4_2 cK4_3 cF4_0 cF4_1 cF4_2 cF4_3 HA4 HW4 K4 F4
    have cK5_0 := show w5.cell? ⟨w.heap.size, 0, none⟩ = some (.int .i64 x.op) from (K5.out.cell 0).trans rfl
    have cK5_1 := show w5.cell? ⟨w.heap.size, 1, none⟩ = some (.int .i64 x.to) from (K5.out.cell 1).trans rfl
    have cK5_2 := show w5.cell? ⟨w.heap.size, 2, none⟩ = some (.slice A x.args.length c) from (K5.out.cell 2).trans rfl
    have cK5_3 := show w5.cell? ⟨w.heap.size, 3, none⟩ = some (.int .i64 x.n) from (K5.out.cell 3).trans rfl
    have cF5_0 := show w5.cell? ⟨w1.heap.size, 0, none⟩ = some (.string nm) from (F5.out.cell 0).trans rfl
    have cF5_1 := show w5.cell? ⟨w1.heap.size, 1, none⟩ = some (.bool false) from (F5.out.cell 1).trans rfl
    have cF5_2 := show w5.cell? ⟨w1.heap.size, 2, none⟩ = some (.bool true) from (F5.out.cell 2).trans rfl
    have cF5_3 := show w5.cell? ⟨w1.heap.size, 3, none⟩ = some (.int .i64 ar) from (F5.out.cell 3).trans rfl
    have S5 := Lib.hid (writeRegs_any B b (bs ++ iNm x.op ++ (32 :: Lib.itoa x.n)) x.args HP.out.args A c w5 (HE.out.next hb_5) HW5.out (fun W h _ => HR.out W (hb_5.trans h)) (by have := HLEN.out; simp only [List.length_append, List.length_cons, List.length_nil] at *; omega) hn)
    go_wp2_with fail
    (with_reducible refine Calls.mono S5.out ?_)
    rintro ee w6 hret
    obtain ⟨rfl, hwn, hbn, han⟩ := hret
    have hb_6 := hb_5.trans hbn
    have hE_6 := Nat.le_trans hE_5 hbn.size
    have HA6 := Lib.hid (HA5.out.trans han)
    have HW6 := Lib.hid hwn
    have K6 := Lib.hid (K5.out.aside han (by decide) hKb)
    have F6 := Lib.hid (F5.out.aside han (by decide) hFb)
    clear hwn hbn han cK5_0 cK5_1 cK5_2 cK5_3 cF5_0 cF5_1 cF5_2 cF5_3 HA5 HW5 K5 F5
    have cK6_0 := show w6.cell? ⟨w.heap.size, 0, none⟩ = some (.int .i64 x.op) from (K6.out.cell 0).trans rfl
    have cK6_1 := show w6.cell? ⟨w.heap.size, 1, none⟩ = some (.int .i64 x.to) from (K6.out.cell 1).trans rfl
    have cK6_2 := show w6.cell? ⟨w.heap.size, 2, none⟩ = some (.slice A x.args.length c) from (K6.out.cell 2).trans rfl
    have cK6_3 := show w6.cell? ⟨w.heap.size, 3, none⟩ = some (.int .i64 x.n) from (K6.out.cell 3).trans rfl
    have cF6_0 := show w6.cell? ⟨w1.heap.size, 0, none⟩ = some (.string nm) from (F6.out.cell 0).trans rfl
    have cF6_1 := show w6.cell? ⟨w1.heap.size, 1, none⟩ = some (.bool false) from (F6.out.cell 1).trans rfl
    have cF6_2 := show w6.cell? ⟨w1.heap.size, 2, none⟩ = some (.bool true) from (F6.out.cell 2).trans rfl
    have cF6_3 := show w6.cell? ⟨w1.heap.size, 3, none⟩ = some (.int .i64 ar) from (F6.out.cell 3).trans rfl
    have S6 := Lib.hid (ws_any B b (bs ++ iNm x.op ++ (32 :: Lib.itoa x.n) ++ catT regT x.args) ([10]) (⟨#[10]⟩) (rfl) w6 HW6.out (by have := HLEN.out; simp only [List.length_append, List.length_cons, List.length_nil] at *; omega) hE_6)
    go_wp2_with fail
    (with_reducible refine Calls.mono S6.out ?_)
    rintro ee w7 ⟨rfl, hwn, hbn, han⟩
    have hb_7 := hb_6.trans hbn
    have hE_7 := Nat.le_trans hE_6 hbn.size
    have HA7 := Lib.hid (HA6.out.trans han)
    have HW7 := Lib.hid hwn
    have K7 := Lib.hid (K6.out.aside han (by decide) hKb)
    have F7 := Lib.hid (F6.out.aside han (by decide) hFb)
    clear hwn hbn han cK6_0 cK6_1 cK6_2 cK6_3 cF6_0 cF6_1 cF6_2 cF6_3 HA6 HW6 K6 F6
    have cK7_0 := show w7.cell? ⟨w.heap.size, 0, none⟩ = some (.int .i64 x.op) from (K7.out.cell 0).trans rfl
    have cK7_1 := show w7.cell? ⟨w.heap.size, 1, none⟩ = some (.int .i64 x.to) from (K7.out.cell 1).trans rfl
    have cK7_2 := show w7.cell? ⟨w.heap.size, 2, none⟩ = some (.slice A x.args.length c) from (K7.out.cell 2).trans rfl
    have cK7_3 := show w7.cell? ⟨w.heap.size, 3, none⟩ = some (.int .i64 x.n) from (K7.out.cell 3).trans rfl
    have cF7_0 := show w7.cell? ⟨w1.heap.size, 0, none⟩ = some (.string nm) from (F7.out.cell 0).trans rfl
    have cF7_1 := show w7.cell? ⟨w1.heap.size, 1, none⟩ = some (.bool false) from (F7.out.cell 1).trans rfl
    have cF7_2 := show w7.cell? ⟨w1.heap.size, 2, none⟩ = some (.bool true) from (F7.out.cell 2).trans rfl
    have cF7_3 := show w7.cell? ⟨w1.heap.size, 3, none⟩ = some (.int .i64 ar) from (F7.out.cell 3).trans rfl
    go_wp2_with fail
    go_end0
    exact ⟨rfl, by have h := HW7.out; rw [HLAST.out]; simpa using h, hb_7, HA7.out⟩
  · go_enter Tryd.func56, Tryd.ntmps56
    have cK0_0 := show (w.alloc (.cells #[.int .i64 x.op, .int .i64 x.to, .slice A x.args.length c, .int .i64 x.n] 62)).cell? ⟨w.heap.size, 0, none⟩ = some (.int .i64 x.op) from (K0.out.cell 0).trans rfl
    have cK0_1 := show (w.alloc (.cells #[.int .i64 x.op, .int .i64 x.to, .slice A x.args.length c, .int .i64 x.n] 62)).cell? ⟨w.heap.size, 1, none⟩ = some (.int .i64 x.to) from (K0.out.cell 1).trans rfl
    have cK0_2 := show (w.alloc (.cells #[.int .i64 x.op, .int .i64 x.to, .slice A x.args.length c, .int .i64 x.n] 62)).cell? ⟨w.heap.size, 2, none⟩ = some (.slice A x.args.length c) from (K0.out.cell 2).trans rfl
    have cK0_3 := show (w.alloc (.cells #[.int .i64 x.op, .int .i64 x.to, .slice A x.args.length c, .int .i64 x.n] 62)).cell? ⟨w.heap.size, 3, none⟩ = some (.int .i64 x.n) from (K0.out.cell 3).trans rfl
    go_wp2_with fail
    generalize w.alloc (.cells #[.int .i64 x.op, .int .i64 x.to, .slice A x.args.length c, .int .i64 x.n] 62) = w0 at *
    (with_reducible refine Calls.mono IF.out ?_)
    rintro ee w1 ⟨rfl, hbn⟩
    have hb_1 := hb_0.trans (hbn.mono hE_0)
    have hE_1 := Nat.le_trans hE_0 hbn.size
    have HA1 := Lib.hid (HA0.out.trans (Aside.of_below hbn))
    have HW1 := Lib.hid (HW0.out.below hbn)
    have K1 := Lib.hid (K0.out.below hbn)
    clear hbn cK0_0 cK0_1 cK0_2 cK0_3 HA0 HW0 K0
    have cK1_0 := show w1.cell? ⟨w.heap.size, 0, none⟩ = some (.int .i64 x.op) from (K1.out.cell 0).trans rfl
    have cK1_1 := show w1.cell? ⟨w.heap.size, 1, none⟩ = some (.int .i64 x.to) from (K1.out.cell 1).trans rfl
    have cK1_2 := show w1.cell? ⟨w.heap.size, 2, none⟩ = some (.slice A x.args.length c) from (K1.out.cell 2).trans rfl
    have cK1_3 := show w1.cell? ⟨w.heap.size, 3, none⟩ = some (.int .i64 x.n) from (K1.out.cell 3).trans rfl
    have hal := (Below.refl w1.heap.size w1).alloc (Nat.le_refl _) (.cells #[.string nm, .bool true, .bool false, .int .i64 ar] 117)
    have F2 := Lib.hid (Bx.new w1 117 #[.string nm, .bool true, .bool false, .int .i64 ar])
    have hFb : w1.heap.size ≠ b := by have := HW1.out.lt; omega
    have hb_2 := hb_1.trans (hal.mono hE_1)
    have hE_2 := Nat.le_trans hE_1 hal.size
    have HA2 := Lib.hid (HA1.out.trans (Aside.of_below hal))
    have HW2 := Lib.hid (HW1.out.below hal)
    have K2 := Lib.hid (K1.out.below hal)
    clear hal cK1_0 cK1_1 cK1_2 cK1_3 HA1 HW1 K1
    have cK2_0 := show (w1.alloc (.cells #[.string nm, .bool true, .bool false, .int .i64 ar] 117)).cell? ⟨w.heap.size, 0, none⟩ = some (.int .i64 x.op) from (K2.out.cell 0).trans rfl
    have cK2_1 := show (w1.alloc (.cells #[.string nm, .bool true, .bool false, .int .i64 ar] 117)).cell? ⟨w.heap.size, 1, none⟩ = some (.int .i64 x.to) from (K2.out.cell 1).trans rfl
    have cK2_2 := show (w1.alloc (.cells #[.string nm, .bool true, .bool false, .int .i64 ar] 117)).cell? ⟨w.heap.size, 2, none⟩ = some (.slice A x.args.length c) from (K2.out.cell 2).trans rfl
    have cK2_3 := show (w1.alloc (.cells #[.string nm, .bool true, .bool false, .int .i64 ar] 117)).cell? ⟨w.heap.size, 3, none⟩ = some (.int .i64 x.n) from (K2.out.cell 3).trans rfl
    have cF2_0 := show (w1.alloc (.cells #[.string nm, .bool true, .bool false, .int .i64 ar] 117)).cell? ⟨w1.heap.size, 0, none⟩ = some (.string nm) from (F2.out.cell 0).trans rfl
    have cF2_1 := show (w1.alloc (.cells #[.string nm, .bool true, .bool false, .int .i64 ar] 117)).cell? ⟨w1.heap.size, 1, none⟩ = some (.bool true) from (F2.out.cell 1).trans rfl
    have cF2_2 := show (w1.alloc (.cells #[.string nm, .bool true, .bool false, .int .i64 ar] 117)).cell? ⟨w1.heap.size, 2, none⟩ = some (.bool false) from (F2.out.cell 2).trans rfl
    have cF2_3 := show (w1.alloc (.cells #[.string nm, .bool true, .bool false, .int .i64 ar] 117)).cell? ⟨w1.heap.size, 3, none⟩ = some (.int .i64 ar) from (F2.out.cell 3).trans rfl
    have C2 := Lib.hid (regText_any B x.to HP.out.to _ (HE.out.next hb_2))
    have hz := tx_size (114 :: Lib.itoa x.to)
    obtain ⟨t, Et⟩ : ∃ y, y = tx (114 :: Lib.itoa x.to) := ⟨_, rfl⟩
    unfold TxRet at C2
    rw [← Et] at C2 hz
    have hst : t.size ≤ 21 := by omega
    have HEt := Lib.hid Et
    clear Et hz hto2 hto
    go_wp2_with fail
    generalize w1.alloc (.cells #[.string nm, .bool true, .bool false, .int .i64 ar] 117) = w2 at *
    (with_reducible refine Calls.mono C2.out ?_)
    rintro ee w3 ⟨rfl, hbn⟩
    have hb_3 := hb_2.trans (hbn.mono hE_2)
    have hE_3 := Nat.le_trans hE_2 hbn.size
    have HA3 := Lib.hid (HA2.out.trans (Aside.of_below hbn))
    have HW3 := Lib.hid (HW2.out.below hbn)
    have K3 := Lib.hid (K2.out.below hbn)
    have F3 := Lib.hid (F2.out.below hbn)
    clear hbn cK2_0 cK2_1 cK2_2 cK2_3 cF2_0 cF2_1 cF2_2 cF2_3 HA2 HW2 K2 F2
    have cK3_0 := show w3.cell? ⟨w.heap.size, 0, none⟩ = some (.int .i64 x.op) from (K3.out.cell 0).trans rfl
    have cK3_1 := show w3.cell? ⟨w.heap.size, 1, none⟩ = some (.int .i64 x.to) from (K3.out.cell 1).trans rfl
    have cK3_2 := show w3.cell? ⟨w.heap.size, 2, none⟩ = some (.slice A x.args.length c) from (K3.out.cell 2).trans rfl
    have cK3_3 := show w3.cell? ⟨w.heap.size, 3, none⟩ = some (.int .i64 x.n) from (K3.out.cell 3).trans rfl
    have cF3_0 := show w3.cell? ⟨w1.heap.size, 0, none⟩ = some (.string nm) from (F3.out.cell 0).trans rfl
    have cF3_1 := show w3.cell? ⟨w1.heap.size, 1, none⟩ = some (.bool true) from (F3.out.cell 1).trans rfl
    have cF3_2 := show w3.cell? ⟨w1.heap.size, 2, none⟩ = some (.bool false) from (F3.out.cell 2).trans rfl
    have cF3_3 := show w3.cell? ⟨w1.heap.size, 3, none⟩ = some (.int .i64 ar) from (F3.out.cell 3).trans rfl
    have S3 := Lib.hid (ws_any B b (bs) ((114 :: Lib.itoa x.to) ++ [32, 61, 32]) (t ++ ⟨#[32, 61, 32]⟩) (by rw [HEt.out, show (⟨#[32, 61, 32]⟩ : ByteArray) = tx [32, 61, 32] from rfl, tx_app]) w3 HW3.out (by have := HLEN.out; simp only [List.length_append, List.length_cons, List.length_nil] at *; omega) hE_3)
    go_wp2_with fail
    (with_reducible refine Calls.mono S3.out ?_)
    rintro ee w4 ⟨rfl, hwn, hbn, han⟩
    have hb_4 := hb_3.trans hbn
    have hE_4 := Nat.le_trans hE_3 hbn.size
    have HA4 := Lib.hid (HA3.out.trans han)
    have HW4 := Lib.hid hwn
    have K4 := Lib.hid (K3.out.aside han (by decide) hKb)
    have F4 := Lib.hid (F3.out.aside han (by decide) hFb)
    clear hwn hbn han cK3_0 cK3_1 cK3_2 cK3_3 cF3_0 cF3_1 cF3_2 cF3_3 HA3 HW3 K3 F3
    have cK4_0 := show w4.cell? ⟨w.heap.size, 0, none⟩ = some (.int .i64 x.op) from (K4.out.cell 0).trans rfl
    have cK4_1 := show w4.cell? ⟨w.heap.size, 1, none⟩ = some (.int .i64 x.to) from (K4.out.cell 1).trans rfl
    have cK4_2 := show w4.cell? ⟨w.heap.size, 2, none⟩ = some (.slice A x.args.length c) from (K4.out.cell 2).trans rfl
    have cK4_3 := show w4.cell? ⟨w.heap.size, 3, none⟩ = some (.int .i64 x.n) from (K4.out.cell 3).trans rfl
    have cF4_0 := show w4.cell? ⟨w1.heap.size, 0, none⟩ = some (.string nm) from (F4.out.cell 0).trans rfl
    have cF4_1 := show w4.cell? ⟨w1.heap.size, 1, none⟩ = some (.bool true) from (F4.out.cell 1).trans rfl
    have cF4_2 := show w4.cell? ⟨w1.heap.size, 2, none⟩ = some (.bool false) from (F4.out.cell 2).trans rfl
    have cF4_3 := show w4.cell? ⟨w1.heap.size, 3, none⟩ = some (.int .i64 ar) from (F4.out.cell 3).trans rfl
    have S4 := Lib.hid (ws_any B b (bs ++ ((114 :: Lib.itoa x.to) ++ [32, 61, 32])) (iNm x.op) (nm) (HNM.out) w4 HW4.out (by have := HLEN.out; simp only [List.length_append, List.length_cons, List.length_nil] at *; omega) hE_4)
    go_wp2_with fail
    (with_reducible refine Calls.mono S4.out ?_)
    rintro ee w5 ⟨rfl, hwn, hbn, han⟩
    have hb_5 := hb_4.trans hbn
    have hE_5 := Nat.le_trans hE_4 hbn.size
    have HA5 := Lib.hid (HA4.out.trans han)
    have HW5 := Lib.hid hwn
    have K5 := Lib.hid (K4.out.aside han (by decide) hKb)
    have F5 := Lib.hid (F4.out.aside han (by decide) hFb)
    clear hwn hbn han cK4_0 cK4_1 cK4_2 cK4_3 cF4_0 cF4_1 cF4_2 cF4_3 HA4 HW4 K4 F4
    have cK5_0 := show w5.cell? ⟨w.heap.size, 0, none⟩ = some (.int .i64 x.op) from (K5.out.cell 0).trans rfl
    have cK5_1 := show w5.cell? ⟨w.heap.size, 1, none⟩ = some (.int .i64 x.to) from (K5.out.cell 1).trans rfl
    have cK5_2 := show w5.cell? ⟨w.heap.size, 2, none⟩ = some (.slice A x.args.length c) from (K5.out.cell 2).trans rfl
    have cK5_3 := show w5.cell? ⟨w.heap.size, 3, none⟩ = some (.int .i64 x.n) from (K5.out.cell 3).trans rfl
    have cF5_0 := show w5.cell? ⟨w1.heap.size, 0, none⟩ = some (.string nm) from (F5.out.cell 0).trans rfl
    have cF5_1 := show w5.cell? ⟨w1.heap.size, 1, none⟩ = some (.bool true) from (F5.out.cell 1).trans rfl
    have cF5_2 := show w5.cell? ⟨w1.heap.size, 2, none⟩ = some (.bool false) from (F5.out.cell 2).trans rfl
    have cF5_3 := show w5.cell? ⟨w1.heap.size, 3, none⟩ = some (.int .i64 ar) from (F5.out.cell 3).trans rfl
    have S5 := Lib.hid (writeRegs_any B b (bs ++ ((114 :: Lib.itoa x.to) ++ [32, 61, 32]) ++ (iNm x.op)) x.args HP.out.args A c w5 (HE.out.next hb_5) HW5.out (fun W h _ => HR.out W (hb_5.trans h)) (by have := HLEN.out; simp only [List.length_append, List.length_cons, List.length_nil] at *; omega) hn)
    go_wp2_with fail
    (with_reducible refine Calls.mono S5.out ?_)
    rintro ee w6 hret
    obtain ⟨rfl, hwn, hbn, han⟩ := hret
    have hb_6 := hb_5.trans hbn
    have hE_6 := Nat.le_trans hE_5 hbn.size
    have HA6 := Lib.hid (HA5.out.trans han)
    have HW6 := Lib.hid hwn
    have K6 := Lib.hid (K5.out.aside han (by decide) hKb)
    have F6 := Lib.hid (F5.out.aside han (by decide) hFb)
    clear hwn hbn han cK5_0 cK5_1 cK5_2 cK5_3 cF5_0 cF5_1 cF5_2 cF5_3 HA5 HW5 K5 F5
    have cK6_0 := show w6.cell? ⟨w.heap.size, 0, none⟩ = some (.int .i64 x.op) from (K6.out.cell 0).trans rfl
    have cK6_1 := show w6.cell? ⟨w.heap.size, 1, none⟩ = some (.int .i64 x.to) from (K6.out.cell 1).trans rfl
    have cK6_2 := show w6.cell? ⟨w.heap.size, 2, none⟩ = some (.slice A x.args.length c) from (K6.out.cell 2).trans rfl
    have cK6_3 := show w6.cell? ⟨w.heap.size, 3, none⟩ = some (.int .i64 x.n) from (K6.out.cell 3).trans rfl
    have cF6_0 := show w6.cell? ⟨w1.heap.size, 0, none⟩ = some (.string nm) from (F6.out.cell 0).trans rfl
    have cF6_1 := show w6.cell? ⟨w1.heap.size, 1, none⟩ = some (.bool true) from (F6.out.cell 1).trans rfl
    have cF6_2 := show w6.cell? ⟨w1.heap.size, 2, none⟩ = some (.bool false) from (F6.out.cell 2).trans rfl
    have cF6_3 := show w6.cell? ⟨w1.heap.size, 3, none⟩ = some (.int .i64 ar) from (F6.out.cell 3).trans rfl
    have S6 := Lib.hid (ws_any B b (bs ++ ((114 :: Lib.itoa x.to) ++ [32, 61, 32]) ++ (iNm x.op) ++ catT regT x.args) ([10]) (⟨#[10]⟩) (rfl) w6 HW6.out (by have := HLEN.out; simp only [List.length_append, List.length_cons, List.length_nil] at *; omega) hE_6)
    go_wp2_with fail
    (with_reducible refine Calls.mono S6.out ?_)
    rintro ee w7 ⟨rfl, hwn, hbn, han⟩
    have hb_7 := hb_6.trans hbn
    have hE_7 := Nat.le_trans hE_6 hbn.size
    have HA7 := Lib.hid (HA6.out.trans han)
    have HW7 := Lib.hid hwn
    have K7 := Lib.hid (K6.out.aside han (by decide) hKb)
    have F7 := Lib.hid (F6.out.aside han (by decide) hFb)
    clear hwn hbn han cK6_0 cK6_1 cK6_2 cK6_3 cF6_0 cF6_1 cF6_2 cF6_3 HA6 HW6 K6 F6
    have cK7_0 := show w7.cell? ⟨w.heap.size, 0, none⟩ = some (.int .i64 x.op) from (K7.out.cell 0).trans rfl
    have cK7_1 := show w7.cell? ⟨w.heap.size, 1, none⟩ = some (.int .i64 x.to) from (K7.out.cell 1).trans rfl
    have cK7_2 := show w7.cell? ⟨w.heap.size, 2, none⟩ = some (.slice A x.args.length c) from (K7.out.cell 2).trans rfl
    have cK7_3 := show w7.cell? ⟨w.heap.size, 3, none⟩ = some (.int .i64 x.n) from (K7.out.cell 3).trans rfl
    have cF7_0 := show w7.cell? ⟨w1.heap.size, 0, none⟩ = some (.string nm) from (F7.out.cell 0).trans rfl
    have cF7_1 := show w7.cell? ⟨w1.heap.size, 1, none⟩ = some (.bool true) from (F7.out.cell 1).trans rfl
    have cF7_2 := show w7.cell? ⟨w1.heap.size, 2, none⟩ = some (.bool false) from (F7.out.cell 2).trans rfl
    have cF7_3 := show w7.cell? ⟨w1.heap.size, 3, none⟩ = some (.int .i64 ar) from (F7.out.cell 3).trans rfl
    go_wp2_with fail
    go_end0
    exact ⟨rfl, by have h := HW7.out; rw [HLAST.out]; simpa using h, hb_7, HA7.out⟩
  · go_enter Tryd.func56, Tryd.ntmps56
    have cK0_0 := show (w.alloc (.cells #[.int .i64 x.op, .int .i64 x.to, .slice A x.args.length c, .int .i64 x.n] 62)).cell? ⟨w.heap.size, 0, none⟩ = some (.int .i64 x.op) from (K0.out.cell 0).trans rfl
    have cK0_1 := show (w.alloc (.cells #[.int .i64 x.op, .int .i64 x.to, .slice A x.args.length c, .int .i64 x.n] 62)).cell? ⟨w.heap.size, 1, none⟩ = some (.int .i64 x.to) from (K0.out.cell 1).trans rfl
    have cK0_2 := show (w.alloc (.cells #[.int .i64 x.op, .int .i64 x.to, .slice A x.args.length c, .int .i64 x.n] 62)).cell? ⟨w.heap.size, 2, none⟩ = some (.slice A x.args.length c) from (K0.out.cell 2).trans rfl
    have cK0_3 := show (w.alloc (.cells #[.int .i64 x.op, .int .i64 x.to, .slice A x.args.length c, .int .i64 x.n] 62)).cell? ⟨w.heap.size, 3, none⟩ = some (.int .i64 x.n) from (K0.out.cell 3).trans rfl
    go_wp2_with fail
    generalize w.alloc (.cells #[.int .i64 x.op, .int .i64 x.to, .slice A x.args.length c, .int .i64 x.n] 62) = w0 at *
    (with_reducible refine Calls.mono IF.out ?_)
    rintro ee w1 ⟨rfl, hbn⟩
    have hb_1 := hb_0.trans (hbn.mono hE_0)
    have hE_1 := Nat.le_trans hE_0 hbn.size
    have HA1 := Lib.hid (HA0.out.trans (Aside.of_below hbn))
    have HW1 := Lib.hid (HW0.out.below hbn)
    have K1 := Lib.hid (K0.out.below hbn)
    clear hbn cK0_0 cK0_1 cK0_2 cK0_3 HA0 HW0 K0
    have cK1_0 := show w1.cell? ⟨w.heap.size, 0, none⟩ = some (.int .i64 x.op) from (K1.out.cell 0).trans rfl
    have cK1_1 := show w1.cell? ⟨w.heap.size, 1, none⟩ = some (.int .i64 x.to) from (K1.out.cell 1).trans rfl
    have cK1_2 := show w1.cell? ⟨w.heap.size, 2, none⟩ = some (.slice A x.args.length c) from (K1.out.cell 2).trans rfl
    have cK1_3 := show w1.cell? ⟨w.heap.size, 3, none⟩ = some (.int .i64 x.n) from (K1.out.cell 3).trans rfl
    have hal := (Below.refl w1.heap.size w1).alloc (Nat.le_refl _) (.cells #[.string nm, .bool true, .bool true, .int .i64 ar] 117)
    have F2 := Lib.hid (Bx.new w1 117 #[.string nm, .bool true, .bool true, .int .i64 ar])
    have hFb : w1.heap.size ≠ b := by have := HW1.out.lt; omega
    have hb_2 := hb_1.trans (hal.mono hE_1)
    have hE_2 := Nat.le_trans hE_1 hal.size
    have HA2 := Lib.hid (HA1.out.trans (Aside.of_below hal))
    have HW2 := Lib.hid (HW1.out.below hal)
    have K2 := Lib.hid (K1.out.below hal)
    clear hal cK1_0 cK1_1 cK1_2 cK1_3 HA1 HW1 K1
    have cK2_0 := show (w1.alloc (.cells #[.string nm, .bool true, .bool true, .int .i64 ar] 117)).cell? ⟨w.heap.size, 0, none⟩ = some (.int .i64 x.op) from (K2.out.cell 0).trans rfl
    have cK2_1 := show (w1.alloc (.cells #[.string nm, .bool true, .bool true, .int .i64 ar] 117)).cell? ⟨w.heap.size, 1, none⟩ = some (.int .i64 x.to) from (K2.out.cell 1).trans rfl
    have cK2_2 := show (w1.alloc (.cells #[.string nm, .bool true, .bool true, .int .i64 ar] 117)).cell? ⟨w.heap.size, 2, none⟩ = some (.slice A x.args.length c) from (K2.out.cell 2).trans rfl
    have cK2_3 := show (w1.alloc (.cells #[.string nm, .bool true, .bool true, .int .i64 ar] 117)).cell? ⟨w.heap.size, 3, none⟩ = some (.int .i64 x.n) from (K2.out.cell 3).trans rfl
    have cF2_0 := show (w1.alloc (.cells #[.string nm, .bool true, .bool true, .int .i64 ar] 117)).cell? ⟨w1.heap.size, 0, none⟩ = some (.string nm) from (F2.out.cell 0).trans rfl
    have cF2_1 := show (w1.alloc (.cells #[.string nm, .bool true, .bool true, .int .i64 ar] 117)).cell? ⟨w1.heap.size, 1, none⟩ = some (.bool true) from (F2.out.cell 1).trans rfl
    have cF2_2 := show (w1.alloc (.cells #[.string nm, .bool true, .bool true, .int .i64 ar] 117)).cell? ⟨w1.heap.size, 2, none⟩ = some (.bool true) from (F2.out.cell 2).trans rfl
    have cF2_3 := show (w1.alloc (.cells #[.string nm, .bool true, .bool true, .int .i64 ar] 117)).cell? ⟨w1.heap.size, 3, none⟩ = some (.int .i64 ar) from (F2.out.cell 3).trans rfl
    have C2 := Lib.hid (regText_any B x.to HP.out.to _ (HE.out.next hb_2))
    have hz := tx_size (114 :: Lib.itoa x.to)
    obtain ⟨t, Et⟩ : ∃ y, y = tx (114 :: Lib.itoa x.to) := ⟨_, rfl⟩
    unfold TxRet at C2
    rw [← Et] at C2 hz
    have hst : t.size ≤ 21 := by omega
    have HEt := Lib.hid Et
    clear Et hz hto2 hto
    go_wp2_with fail
    generalize w1.alloc (.cells #[.string nm, .bool true, .bool true, .int .i64 ar] 117) = w2 at *
    (with_reducible refine Calls.mono C2.out ?_)
    rintro ee w3 ⟨rfl, hbn⟩
    have hb_3 := hb_2.trans (hbn.mono hE_2)
    have hE_3 := Nat.le_trans hE_2 hbn.size
    have HA3 := Lib.hid (HA2.out.trans (Aside.of_below hbn))
    have HW3 := Lib.hid (HW2.out.below hbn)
    have K3 := Lib.hid (K2.out.below hbn)
    have F3 := Lib.hid (F2.out.below hbn)
    clear hbn cK2_0 cK2_1 cK2_2 cK2_3 cF2_0 cF2_1 cF2_2 cF2_3 HA2 HW2 K2 F2
    have cK3_0 := show w3.cell? ⟨w.heap.size, 0, none⟩ = some (.int .i64 x.op) from (K3.out.cell 0).trans rfl
    have cK3_1 := show w3.cell? ⟨w.heap.size, 1, none⟩ = some (.int .i64 x.to) from (K3.out.cell 1).trans rfl
    have cK3_2 := show w3.cell? ⟨w.heap.size, 2, none⟩ = some (.slice A x.args.length c) from (K3.out.cell 2).trans rfl
    have cK3_3 := show w3.cell? ⟨w.heap.size, 3, none⟩ = some (.int .i64 x.n) from (K3.out.cell 3).trans rfl
    have cF3_0 := show w3.cell? ⟨w1.heap.size, 0, none⟩ = some (.string nm) from (F3.out.cell 0).trans rfl
    have cF3_1 := show w3.cell? ⟨w1.heap.size, 1, none⟩ = some (.bool true) from (F3.out.cell 1).trans rfl
    have cF3_2 := show w3.cell? ⟨w1.heap.size, 2, none⟩ = some (.bool true) from (F3.out.cell 2).trans rfl
    have cF3_3 := show w3.cell? ⟨w1.heap.size, 3, none⟩ = some (.int .i64 ar) from (F3.out.cell 3).trans rfl
    have S3 := Lib.hid (ws_any B b (bs) ((114 :: Lib.itoa x.to) ++ [32, 61, 32]) (t ++ ⟨#[32, 61, 32]⟩) (by rw [HEt.out, show (⟨#[32, 61, 32]⟩ : ByteArray) = tx [32, 61, 32] from rfl, tx_app]) w3 HW3.out (by have := HLEN.out; simp only [List.length_append, List.length_cons, List.length_nil] at *; omega) hE_3)
    go_wp2_with fail
    (with_reducible refine Calls.mono S3.out ?_)
    rintro ee w4 ⟨rfl, hwn, hbn, han⟩
    have hb_4 := hb_3.trans hbn
    have hE_4 := Nat.le_trans hE_3 hbn.size
    have HA4 := Lib.hid (HA3.out.trans han)
    have HW4 := Lib.hid hwn
    have K4 := Lib.hid (K3.out.aside han (by decide) hKb)
    have F4 := Lib.hid (F3.out.aside han (by decide) hFb)
    clear hwn hbn han cK3_0 cK3_1 cK3_2 cK3_3 cF3_0 cF3_1 cF3_2 cF3_3 HA3 HW3 K3 F3
    have cK4_0 := show w4.cell? ⟨w.heap.size, 0, none⟩ = some (.int .i64 x.op) from (K4.out.cell 0).trans rfl
    have cK4_1 := show w4.cell? ⟨w.heap.size, 1, none⟩ = some (.int .i64 x.to) from (K4.out.cell 1).trans rfl
    have cK4_2 := show w4.cell? ⟨w.heap.size, 2, none⟩ = some (.slice A x.args.length c) from (K4.out.cell 2).trans rfl
    have cK4_3 := show w4.cell? ⟨w.heap.size, 3, none⟩ = some (.int .i64 x.n) from (K4.out.cell 3).trans rfl
    have cF4_0 := show w4.cell? ⟨w1.heap.size, 0, none⟩ = some (.string nm) from (F4.out.cell 0).trans rfl
    have cF4_1 := show w4.cell? ⟨w1.heap.size, 1, none⟩ = some (.bool true) from (F4.out.cell 1).trans rfl
    have cF4_2 := show w4.cell? ⟨w1.heap.size, 2, none⟩ = some (.bool true) from (F4.out.cell 2).trans rfl
    have cF4_3 := show w4.cell? ⟨w1.heap.size, 3, none⟩ = some (.int .i64 ar) from (F4.out.cell 3).trans rfl
    have S4 := Lib.hid (ws_any B b (bs ++ ((114 :: Lib.itoa x.to) ++ [32, 61, 32])) (iNm x.op) (nm) (HNM.out) w4 HW4.out (by have := HLEN.out; simp only [List.length_append, List.length_cons, List.length_nil] at *; omega) hE_4)
    go_wp2_with fail
    (with_reducible refine Calls.mono S4.out ?_)
    rintro ee w5 ⟨rfl, hwn, hbn, han⟩
    have hb_5 := hb_4.trans hbn
    have hE_5 := Nat.le_trans hE_4 hbn.size
    have HA5 := Lib.hid (HA4.out.trans han)
    have HW5 := Lib.hid hwn
    have K5 := Lib.hid (K4.out.aside han (by decide) hKb)
    have F5 := Lib.hid (F4.out.aside han (by decide) hFb)
    clear hwn hbn han cK4_0 cK4_1 cK4_2 cK4_3 cF4_0 cF4_1 cF4_2 cF4_3 HA4 HW4 K4 F4
    have cK5_0 := show w5.cell? ⟨w.heap.size, 0, none⟩ = some (.int .i64 x.op) from (K5.out.cell 0).trans rfl
    have cK5_1 := show w5.cell? ⟨w.heap.size, 1, none⟩ = some (.int .i64 x.to) from (K5.out.cell 1).trans rfl
    have cK5_2 := show w5.cell? ⟨w.heap.size, 2, none⟩ = some (.slice A x.args.length c) from (K5.out.cell 2).trans rfl
    have cK5_3 := show w5.cell? ⟨w.heap.size, 3, none⟩ = some (.int .i64 x.n) from (K5.out.cell 3).trans rfl
    have cF5_0 := show w5.cell? ⟨w1.heap.size, 0, none⟩ = some (.string nm) from (F5.out.cell 0).trans rfl
    have cF5_1 := show w5.cell? ⟨w1.heap.size, 1, none⟩ = some (.bool true) from (F5.out.cell 1).trans rfl
    have cF5_2 := show w5.cell? ⟨w1.heap.size, 2, none⟩ = some (.bool true) from (F5.out.cell 2).trans rfl
    have cF5_3 := show w5.cell? ⟨w1.heap.size, 3, none⟩ = some (.int .i64 ar) from (F5.out.cell 3).trans rfl
    have C5 := Lib.hid (itoa_te B x.n HP.out.n w5 (HE.out.next hb_5))
    have hz := tx_size (Lib.itoa x.n)
    obtain ⟨u, Eu⟩ : ∃ y, y = tx (Lib.itoa x.n) := ⟨_, rfl⟩
    unfold TxRet at C5
    rw [← Eu] at C5 hz
    have hsu : u.size ≤ 20 := by omega
    have HEu := Lib.hid Eu
    clear Eu hz hnn
    go_wp2_with fail
    (with_reducible refine Calls.mono C5.out ?_)
    rintro ee w6 ⟨rfl, hbn⟩
    have hb_6 := hb_5.trans (hbn.mono hE_5)
    have hE_6 := Nat.le_trans hE_5 hbn.size
    have HA6 := Lib.hid (HA5.out.trans (Aside.of_below hbn))
    have HW6 := Lib.hid (HW5.out.below hbn)
    have K6 := Lib.hid (K5.out.below hbn)
    have F6 := Lib.hid (F5.out.below hbn)
    clear hbn cK5_0 cK5_1 cK5_2 cK5_3 cF5_0 cF5_1 cF5_2 cF5_3 HA5 HW5 K5 F5
    have cK6_0 := show w6.cell? ⟨w.heap.size, 0, none⟩ = some (.int .i64 x.op) from (K6.out.cell 0).trans rfl
    have cK6_1 := show w6.cell? ⟨w.heap.size, 1, none⟩ = some (.int .i64 x.to) from (K6.out.cell 1).trans rfl
    have cK6_2 := show w6.cell? ⟨w.heap.size, 2, none⟩ = some (.slice A x.args.length c) from (K6.out.cell 2).trans rfl
    have cK6_3 := show w6.cell? ⟨w.heap.size, 3, none⟩ = some (.int .i64 x.n) from (K6.out.cell 3).trans rfl
    have cF6_0 := show w6.cell? ⟨w1.heap.size, 0, none⟩ = some (.string nm) from (F6.out.cell 0).trans rfl
    have cF6_1 := show w6.cell? ⟨w1.heap.size, 1, none⟩ = some (.bool true) from (F6.out.cell 1).trans rfl
    have cF6_2 := show w6.cell? ⟨w1.heap.size, 2, none⟩ = some (.bool true) from (F6.out.cell 2).trans rfl
    have cF6_3 := show w6.cell? ⟨w1.heap.size, 3, none⟩ = some (.int .i64 ar) from (F6.out.cell 3).trans rfl
    have S6 := Lib.hid (ws_any B b (bs ++ ((114 :: Lib.itoa x.to) ++ [32, 61, 32]) ++ (iNm x.op)) (32 :: Lib.itoa x.n) (⟨#[32]⟩ ++ u) (by rw [HEu.out]; exact tx_cons 32 _) w6 HW6.out (by have := HLEN.out; simp only [List.length_append, List.length_cons, List.length_nil] at *; omega) hE_6)
    go_wp2_with fail
    (with_reducible refine Calls.mono S6.out ?_)
    rintro ee w7 ⟨rfl, hwn, hbn, han⟩
    have hb_7 := hb_6.trans hbn
    have hE_7 := Nat.le_trans hE_6 hbn.size
    have HA7 := Lib.hid (HA6.out.trans han)
    have HW7 := Lib.hid hwn
    have K7 := Lib.hid (K6.out.aside han (by decide) hKb)
    have F7 := Lib.hid (F6.out.aside han (by decide) hFb)
    clear hwn hbn han cK6_0 cK6_1 cK6_2 cK6_3 cF6_0 cF6_1 cF6_2 cF6_3 HA6 HW6 K6 F6
    have cK7_0 := show w7.cell? ⟨w.heap.size, 0, none⟩ = some (.int .i64 x.op) from (K7.out.cell 0).trans rfl
    have cK7_1 := show w7.cell? ⟨w.heap.size, 1, none⟩ = some (.int .i64 x.to) from (K7.out.cell 1).trans rfl
    have cK7_2 := show w7.cell? ⟨w.heap.size, 2, none⟩ = some (.slice A x.args.length c) from (K7.out.cell 2).trans rfl
    have cK7_3 := show w7.cell? ⟨w.heap.size, 3, none⟩ = some (.int .i64 x.n) from (K7.out.cell 3).trans rfl
    have cF7_0 := show w7.cell? ⟨w1.heap.size, 0, none⟩ = some (.string nm) from (F7.out.cell 0).trans rfl
    have cF7_1 := show w7.cell? ⟨w1.heap.size, 1, none⟩ = some (.bool true) from (F7.out.cell 1).trans rfl
    have cF7_2 := show w7.cell? ⟨w1.heap.size, 2, none⟩ = some (.bool true) from (F7.out.cell 2).trans rfl
    have cF7_3 := show w7.cell? ⟨w1.heap.size, 3, none⟩ = some (.int .i64 ar) from (F7.out.cell 3).trans rfl
    have S7 := Lib.hid (writeRegs_any B b (bs ++ ((114 :: Lib.itoa x.to) ++ [32, 61, 32]) ++ (iNm x.op) ++ (32 :: Lib.itoa x.n)) x.args HP.out.args A c w7 (HE.out.next hb_7) HW7.out (fun W h _ => HR.out W (hb_7.trans h)) (by have := HLEN.out; simp only [List.length_append, List.length_cons, List.length_nil] at *; omega) hn)
    go_wp2_with fail
    (with_reducible refine Calls.mono S7.out ?_)
    rintro ee w8 hret
    obtain ⟨rfl, hwn, hbn, han⟩ := hret
    have hb_8 := hb_7.trans hbn
    have hE_8 := Nat.le_trans hE_7 hbn.size
    have HA8 := Lib.hid (HA7.out.trans han)
    have HW8 := Lib.hid hwn
    have K8 := Lib.hid (K7.out.aside han (by decide) hKb)
    have F8 := Lib.hid (F7.out.aside han (by decide) hFb)
    clear hwn hbn han cK7_0 cK7_1 cK7_2 cK7_3 cF7_0 cF7_1 cF7_2 cF7_3 HA7 HW7 K7 F7
    have cK8_0 := show w8.cell? ⟨w.heap.size, 0, none⟩ = some (.int .i64 x.op) from (K8.out.cell 0).trans rfl
    have cK8_1 := show w8.cell? ⟨w.heap.size, 1, none⟩ = some (.int .i64 x.to) from (K8.out.cell 1).trans rfl
    have cK8_2 := show w8.cell? ⟨w.heap.size, 2, none⟩ = some (.slice A x.args.length c) from (K8.out.cell 2).trans rfl
    have cK8_3 := show w8.cell? ⟨w.heap.size, 3, none⟩ = some (.int .i64 x.n) from (K8.out.cell 3).trans rfl
    have cF8_0 := show w8.cell? ⟨w1.heap.size, 0, none⟩ = some (.string nm) from (F8.out.cell 0).trans rfl
    have cF8_1 := show w8.cell? ⟨w1.heap.size, 1, none⟩ = some (.bool true) from (F8.out.cell 1).trans rfl
    have cF8_2 := show w8.cell? ⟨w1.heap.size, 2, none⟩ = some (.bool true) from (F8.out.cell 2).trans rfl
    have cF8_3 := show w8.cell? ⟨w1.heap.size, 3, none⟩ = some (.int .i64 ar) from (F8.out.cell 3).trans rfl
    have S8 := Lib.hid (ws_any B b (bs ++ ((114 :: Lib.itoa x.to) ++ [32, 61, 32]) ++ (iNm x.op) ++ (32 :: Lib.itoa x.n) ++ catT regT x.args) ([10]) (⟨#[10]⟩) (rfl) w8 HW8.out (by have := HLEN.out; simp only [List.length_append, List.length_cons, List.length_nil] at *; omega) hE_8)
    go_wp2_with fail
    (with_reducible refine Calls.mono S8.out ?_)
    rintro ee w9 ⟨rfl, hwn, hbn, han⟩
    have hb_9 := hb_8.trans hbn
    have hE_9 := Nat.le_trans hE_8 hbn.size
    have HA9 := Lib.hid (HA8.out.trans han)
    have HW9 := Lib.hid hwn
    have K9 := Lib.hid (K8.out.aside han (by decide) hKb)
    have F9 := Lib.hid (F8.out.aside han (by decide) hFb)
    clear hwn hbn han cK8_0 cK8_1 cK8_2 cK8_3 cF8_0 cF8_1 cF8_2 cF8_3 HA8 HW8 K8 F8
    have cK9_0 := show w9.cell? ⟨w.heap.size, 0, none⟩ = some (.int .i64 x.op) from (K9.out.cell 0).trans rfl
    have cK9_1 := show w9.cell? ⟨w.heap.size, 1, none⟩ = some (.int .i64 x.to) from (K9.out.cell 1).trans rfl
    have cK9_2 := show w9.cell? ⟨w.heap.size, 2, none⟩ = some (.slice A x.args.length c) from (K9.out.cell 2).trans rfl
    have cK9_3 := show w9.cell? ⟨w.heap.size, 3, none⟩ = some (.int .i64 x.n) from (K9.out.cell 3).trans rfl
    have cF9_0 := show w9.cell? ⟨w1.heap.size, 0, none⟩ = some (.string nm) from (F9.out.cell 0).trans rfl
    have cF9_1 := show w9.cell? ⟨w1.heap.size, 1, none⟩ = some (.bool true) from (F9.out.cell 1).trans rfl
    have cF9_2 := show w9.cell? ⟨w1.heap.size, 2, none⟩ = some (.bool true) from (F9.out.cell 2).trans rfl
    have cF9_3 := show w9.cell? ⟨w1.heap.size, 3, none⟩ = some (.int .i64 ar) from (F9.out.cell 3).trans rfl
    go_wp2_with fail
    go_end0
    exact ⟨rfl, by have h := HW9.out; rw [HLAST.out]; simpa using h, hb_9, HA9.out⟩
set_option maxHeartbeats 8000000 in
theorem writeJump_any (B b : Nat) (bs : List UInt8) (x : Bk) (v : Value) (w : World) (hp : OkBk x) (hE : TE B w) (hW : Wr B b bs w) (hV : BkV w (Lt B) x v) (hl : bs.length ≤ 90000000000) (hn : x.next.length ≤ 1048576) :
    Calls Tryd.prog 57 #[.pointer (some ⟨b, 0, none⟩), v] w (Wrote B b bs (jumpT x) w) := by
  obtain ⟨A0, c0, A1, c1, A4, c4, rfl, _, _, hR⟩ := hV
  have HR := Lib.hid (fun W (h : Below B w W) => hR.on h (Nat.le_trans hE.le h.size))
  have hbb := hW.lt
  have hBb := hW.le
  have hKb : w.heap.size ≠ b := by omega
  have K0 := Lib.hid (Bx.new w 56 #[.slice A0 x.phis.length c0, .slice A1 x.ins.length c1, .int .i64 x.jump, .int .i64 x.on, .slice A4 x.next.length c4])
  have hal := (Below.refl w.heap.size w).alloc (Nat.le_refl _) (.cells #[.slice A0 x.phis.length c0, .slice A1 x.ins.length c1, .int .i64 x.jump, .int .i64 x.on, .slice A4 x.next.length c4] 56)
  have hE_ := hE.le
  have hb_0 := hal.mono hE_
  have hE_0 := Nat.le_trans hE_ hal.size
  have HA0 := Lib.hid (Aside.of_below (b := b) hal)
  have HW0 := Lib.hid (hW.below hal)
  have HE := Lib.hid hE
  clear hE hW hal
  have hag := numsT_le hp.next
  have hoo := itoaS hp.on
  have hnm := jNm_le x.jump
  have HLEN := Lib.hid (show bs.length ≤ 90000000000 ∧ (Lib.itoa x.on).length ≤ 20 ∧ (jNm x.jump).length ≤ 4 ∧ (catT numT x.next).length ≤ 22 * x.next.length ∧ x.next.length ≤ 1048576 from ⟨hl, hoo, hnm, hag, hn⟩)
  have HP := Lib.hid hp
  clear hR hag hnm hoo
  have IF := jumpForm_any x.jump _ (HE.out.tabs _ hb_0).2.2
  unfold jmpV VB at IF
  have HNM := Lib.hid (show jName x.jump = tx (jNm x.jump) from rfl)
  generalize jName x.jump = nm at *
  generalize jNext x.jump = ar at *
  have hlast : ∀ us, jUses x.jump = us → jumpT x = jNm x.jump ++ ((if us then 32 :: 114 :: Lib.itoa x.on else []) ++ (catT numT x.next ++ [10])) := by rintro _ rfl; rfl
  have hus : ∃ us, jUses x.jump = us := ⟨_, rfl⟩
  obtain ⟨us, hus⟩ := hus
  rw [hus] at IF
  have HLAST := Lib.hid (hlast us hus)
  replace IF := Lib.hid IF
  clear hlast hus
  cases us
  · go_enter Tryd.func57, Tryd.ntmps57
    have cK0_0 := show (w.alloc (.cells #[.slice A0 x.phis.length c0, .slice A1 x.ins.length c1, .int .i64 x.jump, .int .i64 x.on, .slice A4 x.next.length c4] 56)).cell? ⟨w.heap.size, 0, none⟩ = some (.slice A0 x.phis.length c0) from (K0.out.cell 0).trans rfl
    have cK0_1 := show (w.alloc (.cells #[.slice A0 x.phis.length c0, .slice A1 x.ins.length c1, .int .i64 x.jump, .int .i64 x.on, .slice A4 x.next.length c4] 56)).cell? ⟨w.heap.size, 1, none⟩ = some (.slice A1 x.ins.length c1) from (K0.out.cell 1).trans rfl
    have cK0_2 := show (w.alloc (.cells #[.slice A0 x.phis.length c0, .slice A1 x.ins.length c1, .int .i64 x.jump, .int .i64 x.on, .slice A4 x.next.length c4] 56)).cell? ⟨w.heap.size, 2, none⟩ = some (.int .i64 x.jump) from (K0.out.cell 2).trans rfl
    have cK0_3 := show (w.alloc (.cells #[.slice A0 x.phis.length c0, .slice A1 x.ins.length c1, .int .i64 x.jump, .int .i64 x.on, .slice A4 x.next.length c4] 56)).cell? ⟨w.heap.size, 3, none⟩ = some (.int .i64 x.on) from (K0.out.cell 3).trans rfl
    have cK0_4 := show (w.alloc (.cells #[.slice A0 x.phis.length c0, .slice A1 x.ins.length c1, .int .i64 x.jump, .int .i64 x.on, .slice A4 x.next.length c4] 56)).cell? ⟨w.heap.size, 4, none⟩ = some (.slice A4 x.next.length c4) from (K0.out.cell 4).trans rfl
    go_wp2_with fail
    generalize w.alloc (.cells #[.slice A0 x.phis.length c0, .slice A1 x.ins.length c1, .int .i64 x.jump, .int .i64 x.on, .slice A4 x.next.length c4] 56) = w0 at *
    (with_reducible refine Calls.mono IF.out ?_)
    rintro ee w1 ⟨rfl, hbn⟩
    have hb_1 := hb_0.trans (hbn.mono hE_0)
    have hE_1 := Nat.le_trans hE_0 hbn.size
    have HA1 := Lib.hid (HA0.out.trans (Aside.of_below hbn))
    have HW1 := Lib.hid (HW0.out.below hbn)
    have K1 := Lib.hid (K0.out.below hbn)
    clear hbn cK0_0 cK0_1 cK0_2 cK0_3 cK0_4 HA0 HW0 K0
    have cK1_0 := show w1.cell? ⟨w.heap.size, 0, none⟩ = some (.slice A0 x.phis.length c0) from (K1.out.cell 0).trans rfl
    have cK1_1 := show w1.cell? ⟨w.heap.size, 1, none⟩ = some (.slice A1 x.ins.length c1) from (K1.out.cell 1).trans rfl
    have cK1_2 := show w1.cell? ⟨w.heap.size, 2, none⟩ = some (.int .i64 x.jump) from (K1.out.cell 2).trans rfl
    have cK1_3 := show w1.cell? ⟨w.heap.size, 3, none⟩ = some (.int .i64 x.on) from (K1.out.cell 3).trans rfl
    have cK1_4 := show w1.cell? ⟨w.heap.size, 4, none⟩ = some (.slice A4 x.next.length c4) from (K1.out.cell 4).trans rfl
    have hal := (Below.refl w1.heap.size w1).alloc (Nat.le_refl _) (.cells #[.string nm, .bool false, .int .i64 ar] 121)
    have F2 := Lib.hid (Bx.new w1 121 #[.string nm, .bool false, .int .i64 ar])
    have hFb : w1.heap.size ≠ b := by have := HW1.out.lt; omega
    have hb_2 := hb_1.trans (hal.mono hE_1)
    have hE_2 := Nat.le_trans hE_1 hal.size
    have HA2 := Lib.hid (HA1.out.trans (Aside.of_below hal))
    have HW2 := Lib.hid (HW1.out.below hal)
    have K2 := Lib.hid (K1.out.below hal)
    clear hal cK1_0 cK1_1 cK1_2 cK1_3 cK1_4 HA1 HW1 K1
    have cK2_0 := show (w1.alloc (.cells #[.string nm, .bool false, .int .i64 ar] 121)).cell? ⟨w.heap.size, 0, none⟩ = some (.slice A0 x.phis.length c0) from (K2.out.cell 0).trans rfl
    have cK2_1 := show (w1.alloc (.cells #[.string nm, .bool false, .int .i64 ar] 121)).cell? ⟨w.heap.size, 1, none⟩ = some (.slice A1 x.ins.length c1) from (K2.out.cell 1).trans rfl
    have cK2_2 := show (w1.alloc (.cells #[.string nm, .bool false, .int .i64 ar] 121)).cell? ⟨w.heap.size, 2, none⟩ = some (.int .i64 x.jump) from (K2.out.cell 2).trans rfl
    have cK2_3 := show (w1.alloc (.cells #[.string nm, .bool false, .int .i64 ar] 121)).cell? ⟨w.heap.size, 3, none⟩ = some (.int .i64 x.on) from (K2.out.cell 3).trans rfl
    have cK2_4 := show (w1.alloc (.cells #[.string nm, .bool false, .int .i64 ar] 121)).cell? ⟨w.heap.size, 4, none⟩ = some (.slice A4 x.next.length c4) from (K2.out.cell 4).trans rfl
    have cF2_0 := show (w1.alloc (.cells #[.string nm, .bool false, .int .i64 ar] 121)).cell? ⟨w1.heap.size, 0, none⟩ = some (.string nm) from (F2.out.cell 0).trans rfl
    have cF2_1 := show (w1.alloc (.cells #[.string nm, .bool false, .int .i64 ar] 121)).cell? ⟨w1.heap.size, 1, none⟩ = some (.bool false) from (F2.out.cell 1).trans rfl
    have cF2_2 := show (w1.alloc (.cells #[.string nm, .bool false, .int .i64 ar] 121)).cell? ⟨w1.heap.size, 2, none⟩ = some (.int .i64 ar) from (F2.out.cell 2).trans rfl
    have S2 := Lib.hid (ws_any B b bs (jNm x.jump) nm HNM.out _ HW2.out (by have := HLEN.out; omega) hE_2)
    go_wp2_with fail
    generalize w1.alloc (.cells #[.string nm, .bool false, .int .i64 ar] 121) = w2 at *
    (with_reducible refine Calls.mono S2.out ?_)
    rintro ee w3 ⟨rfl, hwn, hbn, han⟩
    have hb_3 := hb_2.trans hbn
    have hE_3 := Nat.le_trans hE_2 hbn.size
    have HA3 := Lib.hid (HA2.out.trans han)
    have HW3 := Lib.hid hwn
    have K3 := Lib.hid (K2.out.aside han (by decide) hKb)
    have F3 := Lib.hid (F2.out.aside han (by decide) hFb)
    clear hwn hbn han cK2_0 cK2_1 cK2_2 cK2_3 cK2_4 cF2_0 cF2_1 cF2_2 HA2 HW2 K2 F2
    have cK3_0 := show w3.cell? ⟨w.heap.size, 0, none⟩ = some (.slice A0 x.phis.length c0) from (K3.out.cell 0).trans rfl
    have cK3_1 := show w3.cell? ⟨w.heap.size, 1, none⟩ = some (.slice A1 x.ins.length c1) from (K3.out.cell 1).trans rfl
    have cK3_2 := show w3.cell? ⟨w.heap.size, 2, none⟩ = some (.int .i64 x.jump) from (K3.out.cell 2).trans rfl
    have cK3_3 := show w3.cell? ⟨w.heap.size, 3, none⟩ = some (.int .i64 x.on) from (K3.out.cell 3).trans rfl
    have cK3_4 := show w3.cell? ⟨w.heap.size, 4, none⟩ = some (.slice A4 x.next.length c4) from (K3.out.cell 4).trans rfl
    have cF3_0 := show w3.cell? ⟨w1.heap.size, 0, none⟩ = some (.string nm) from (F3.out.cell 0).trans rfl
    have cF3_1 := show w3.cell? ⟨w1.heap.size, 1, none⟩ = some (.bool false) from (F3.out.cell 1).trans rfl
    have cF3_2 := show w3.cell? ⟨w1.heap.size, 2, none⟩ = some (.int .i64 ar) from (F3.out.cell 2).trans rfl
    go_wp2_with fail
    go_loopw [24] (fun i wr => ∃ k : Nat, k ≤ x.next.length ∧ i = .int .i64 k ∧ Wr B b (bs ++ jNm x.jump ++ catT numT (x.next.take k)) wr ∧ Below B w wr ∧ Aside b w wr) (fun i _ => x.next.length - (intOf i).toNat)
    case atStart => exact ⟨0, Nat.zero_le _, rfl, by rw [List.take_zero]; show Wr B b (bs ++ jNm x.jump ++ []) _; rw [List.append_nil]; exact HW3.out, hb_3, HA3.out⟩
    case round =>
      clear cK3_0 cK3_1 cK3_2 cK3_3 cK3_4 cF3_0 cF3_1 cF3_2 HW3 HA3 hb_3 hE_3 K3 F3
      obtain ⟨k, hk, rfl, hw, hb, ha⟩ := hrel
      have HWk := Lib.hid hw
      have HA := Lib.hid ha
      clear hw ha
      by_cases hlt : k < x.next.length
      · obtain ⟨bb, o, rfl, hB, c0⟩ := (HR.out wr hb).at_ hlt
        have hs : SmN x.next[k] := HP.out.next _ (List.getElem_mem hlt)
        have hpre := catT_pre numT x.next k
        have HN := Lib.hid (catT_take numT hlt)
        have C := Lib.hid (itoa_te B x.next[k] hs wr (HE.out.next hb))
        have hTE := (HE.out.next hb).le
        have HT := Lib.hid (show (⟨#[32]⟩ : ByteArray) ++ tx (Lib.itoa x.next[k]) = tx (numT x.next[k]) from tx_cons 32 _)
        have hq := numT_le hs
        have hz := tx_size (Lib.itoa x.next[k])
        have hi := itoaS hs
        have WS := fun W (h : Below wr.heap.size wr W) => Lib.hid (ws_any B b (bs ++ jNm x.jump ++ catT numT (x.next.take k)) (numT x.next[k]) _ HT.out W (HWk.out.below h) (by have := HLEN.out; simp only [List.length_append, List.length_cons, List.length_nil] at *; omega) (by have := h.size; omega))
        unfold TxRet at C
        generalize tx (Lib.itoa x.next[k]) = t at *
        generalize numT x.next[k] = rt at *
        generalize x.next[k] = y at *
        have ht : t.size ≤ 21 := by omega
        clear hz hi hs hpre hq
        go_wp2_with fail
        (with_reducible refine Calls.mono C.out ?_)
        rintro ee v1 ⟨rfl, hb1⟩
        have WS1 := Lib.hid (WS v1 hb1).out
        have hb2 := hb.trans (hb1.mono hTE)
        have HA2 := Lib.hid (HA.out.trans (Aside.of_below hb1))
        clear hb1 WS HA c0
        go_wp2_with fail
        (with_reducible refine Calls.mono WS1.out ?_)
        rintro ee v2 ⟨rfl, hw2, hb3, ha3⟩
        have HW2 := Lib.hid hw2
        have HA3 := Lib.hid (HA2.out.trans ha3)
        have hb4 := hb2.trans hb3
        clear hw2 ha3 hb3
        go_wp2_with fail
        go_roundw
        case rel => exact ⟨k + 1, by omega, by go_num, by rw [HN.out, ← List.append_assoc]; exact HW2.out, hb4, HA3.out⟩
        case measure => simp only [intOf]; omega
      · obtain rfl : k = x.next.length := by omega
        have HT := Lib.hid (List.take_length (l := x.next))
        have WS1 := Lib.hid (ws_any B b (bs ++ jNm x.jump ++ catT numT x.next) [10] ⟨#[10]⟩ rfl wr (by have := HWk.out; rw [HT.out] at this; exact this) (by have := HLEN.out; simp only [List.length_append, List.length_cons, List.length_nil] at *; omega) ((HE.out.next hb).le))
        go_wp2_with fail
        (with_reducible refine Calls.mono WS1.out ?_)
        rintro ee v2 ⟨rfl, hw2, hb3, ha3⟩
        have HW2 := Lib.hid hw2
        have HA3 := Lib.hid (HA.out.trans ha3)
        have hb4 := hb.trans hb3
        clear hw2 ha3 hb3
        go_wp2_with fail
        go_end0
        exact ⟨rfl, by have h := HW2.out; rw [HLAST.out]; simpa [catT, regT] using h, hb4, HA3.out⟩
  · go_enter Tryd.func57, Tryd.ntmps57
    have cK0_0 := show (w.alloc (.cells #[.slice A0 x.phis.length c0, .slice A1 x.ins.length c1, .int .i64 x.jump, .int .i64 x.on, .slice A4 x.next.length c4] 56)).cell? ⟨w.heap.size, 0, none⟩ = some (.slice A0 x.phis.length c0) from (K0.out.cell 0).trans rfl
    have cK0_1 := show (w.alloc (.cells #[.slice A0 x.phis.length c0, .slice A1 x.ins.length c1, .int .i64 x.jump, .int .i64 x.on, .slice A4 x.next.length c4] 56)).cell? ⟨w.heap.size, 1, none⟩ = some (.slice A1 x.ins.length c1) from (K0.out.cell 1).trans rfl
    have cK0_2 := show (w.alloc (.cells #[.slice A0 x.phis.length c0, .slice A1 x.ins.length c1, .int .i64 x.jump, .int .i64 x.on, .slice A4 x.next.length c4] 56)).cell? ⟨w.heap.size, 2, none⟩ = some (.int .i64 x.jump) from (K0.out.cell 2).trans rfl
    have cK0_3 := show (w.alloc (.cells #[.slice A0 x.phis.length c0, .slice A1 x.ins.length c1, .int .i64 x.jump, .int .i64 x.on, .slice A4 x.next.length c4] 56)).cell? ⟨w.heap.size, 3, none⟩ = some (.int .i64 x.on) from (K0.out.cell 3).trans rfl
    have cK0_4 := show (w.alloc (.cells #[.slice A0 x.phis.length c0, .slice A1 x.ins.length c1, .int .i64 x.jump, .int .i64 x.on, .slice A4 x.next.length c4] 56)).cell? ⟨w.heap.size, 4, none⟩ = some (.slice A4 x.next.length c4) from (K0.out.cell 4).trans rfl
    go_wp2_with fail
    generalize w.alloc (.cells #[.slice A0 x.phis.length c0, .slice A1 x.ins.length c1, .int .i64 x.jump, .int .i64 x.on, .slice A4 x.next.length c4] 56) = w0 at *
    (with_reducible refine Calls.mono IF.out ?_)
    rintro ee w1 ⟨rfl, hbn⟩
    have hb_1 := hb_0.trans (hbn.mono hE_0)
    have hE_1 := Nat.le_trans hE_0 hbn.size
    have HA1 := Lib.hid (HA0.out.trans (Aside.of_below hbn))
    have HW1 := Lib.hid (HW0.out.below hbn)
    have K1 := Lib.hid (K0.out.below hbn)
    clear hbn cK0_0 cK0_1 cK0_2 cK0_3 cK0_4 HA0 HW0 K0
    have cK1_0 := show w1.cell? ⟨w.heap.size, 0, none⟩ = some (.slice A0 x.phis.length c0) from (K1.out.cell 0).trans rfl
    have cK1_1 := show w1.cell? ⟨w.heap.size, 1, none⟩ = some (.slice A1 x.ins.length c1) from (K1.out.cell 1).trans rfl
    have cK1_2 := show w1.cell? ⟨w.heap.size, 2, none⟩ = some (.int .i64 x.jump) from (K1.out.cell 2).trans rfl
    have cK1_3 := show w1.cell? ⟨w.heap.size, 3, none⟩ = some (.int .i64 x.on) from (K1.out.cell 3).trans rfl
    have cK1_4 := show w1.cell? ⟨w.heap.size, 4, none⟩ = some (.slice A4 x.next.length c4) from (K1.out.cell 4).trans rfl
    have hal := (Below.refl w1.heap.size w1).alloc (Nat.le_refl _) (.cells #[.string nm, .bool true, .int .i64 ar] 121)
    have F2 := Lib.hid (Bx.new w1 121 #[.string nm, .bool true, .int .i64 ar])
    have hFb : w1.heap.size ≠ b := by have := HW1.out.lt; omega
    have hb_2 := hb_1.trans (hal.mono hE_1)
    have hE_2 := Nat.le_trans hE_1 hal.size
    have HA2 := Lib.hid (HA1.out.trans (Aside.of_below hal))
    have HW2 := Lib.hid (HW1.out.below hal)
    have K2 := Lib.hid (K1.out.below hal)
    clear hal cK1_0 cK1_1 cK1_2 cK1_3 cK1_4 HA1 HW1 K1
    have cK2_0 := show (w1.alloc (.cells #[.string nm, .bool true, .int .i64 ar] 121)).cell? ⟨w.heap.size, 0, none⟩ = some (.slice A0 x.phis.length c0) from (K2.out.cell 0).trans rfl
    have cK2_1 := show (w1.alloc (.cells #[.string nm, .bool true, .int .i64 ar] 121)).cell? ⟨w.heap.size, 1, none⟩ = some (.slice A1 x.ins.length c1) from (K2.out.cell 1).trans rfl
    have cK2_2 := show (w1.alloc (.cells #[.string nm, .bool true, .int .i64 ar] 121)).cell? ⟨w.heap.size, 2, none⟩ = some (.int .i64 x.jump) from (K2.out.cell 2).trans rfl
    have cK2_3 := show (w1.alloc (.cells #[.string nm, .bool true, .int .i64 ar] 121)).cell? ⟨w.heap.size, 3, none⟩ = some (.int .i64 x.on) from (K2.out.cell 3).trans rfl
    have cK2_4 := show (w1.alloc (.cells #[.string nm, .bool true, .int .i64 ar] 121)).cell? ⟨w.heap.size, 4, none⟩ = some (.slice A4 x.next.length c4) from (K2.out.cell 4).trans rfl
    have cF2_0 := show (w1.alloc (.cells #[.string nm, .bool true, .int .i64 ar] 121)).cell? ⟨w1.heap.size, 0, none⟩ = some (.string nm) from (F2.out.cell 0).trans rfl
    have cF2_1 := show (w1.alloc (.cells #[.string nm, .bool true, .int .i64 ar] 121)).cell? ⟨w1.heap.size, 1, none⟩ = some (.bool true) from (F2.out.cell 1).trans rfl
    have cF2_2 := show (w1.alloc (.cells #[.string nm, .bool true, .int .i64 ar] 121)).cell? ⟨w1.heap.size, 2, none⟩ = some (.int .i64 ar) from (F2.out.cell 2).trans rfl
    have S2 := Lib.hid (ws_any B b bs (jNm x.jump) nm HNM.out _ HW2.out (by have := HLEN.out; omega) hE_2)
    go_wp2_with fail
    generalize w1.alloc (.cells #[.string nm, .bool true, .int .i64 ar] 121) = w2 at *
    (with_reducible refine Calls.mono S2.out ?_)
    rintro ee w3 ⟨rfl, hwn, hbn, han⟩
    have hb_3 := hb_2.trans hbn
    have hE_3 := Nat.le_trans hE_2 hbn.size
    have HA3 := Lib.hid (HA2.out.trans han)
    have HW3 := Lib.hid hwn
    have K3 := Lib.hid (K2.out.aside han (by decide) hKb)
    have F3 := Lib.hid (F2.out.aside han (by decide) hFb)
    clear hwn hbn han cK2_0 cK2_1 cK2_2 cK2_3 cK2_4 cF2_0 cF2_1 cF2_2 HA2 HW2 K2 F2
    have cK3_0 := show w3.cell? ⟨w.heap.size, 0, none⟩ = some (.slice A0 x.phis.length c0) from (K3.out.cell 0).trans rfl
    have cK3_1 := show w3.cell? ⟨w.heap.size, 1, none⟩ = some (.slice A1 x.ins.length c1) from (K3.out.cell 1).trans rfl
    have cK3_2 := show w3.cell? ⟨w.heap.size, 2, none⟩ = some (.int .i64 x.jump) from (K3.out.cell 2).trans rfl
    have cK3_3 := show w3.cell? ⟨w.heap.size, 3, none⟩ = some (.int .i64 x.on) from (K3.out.cell 3).trans rfl
    have cK3_4 := show w3.cell? ⟨w.heap.size, 4, none⟩ = some (.slice A4 x.next.length c4) from (K3.out.cell 4).trans rfl
    have cF3_0 := show w3.cell? ⟨w1.heap.size, 0, none⟩ = some (.string nm) from (F3.out.cell 0).trans rfl
    have cF3_1 := show w3.cell? ⟨w1.heap.size, 1, none⟩ = some (.bool true) from (F3.out.cell 1).trans rfl
    have cF3_2 := show w3.cell? ⟨w1.heap.size, 2, none⟩ = some (.int .i64 ar) from (F3.out.cell 2).trans rfl
    have hal := (Below.refl w3.heap.size w3).alloc (Nat.le_refl _) (.cells #[.int .i64 x.on] 3)
    have N4 := Lib.hid (Bx.new w3 3 #[.int .i64 x.on])
    have hNb : w3.heap.size ≠ b := by have := HW3.out.lt; omega
    have hb_4 := hb_3.trans (hal.mono hE_3)
    have hE_4 := Nat.le_trans hE_3 hal.size
    have HA4 := Lib.hid (HA3.out.trans (Aside.of_below hal))
    have HW4 := Lib.hid (HW3.out.below hal)
    have K4 := Lib.hid (K3.out.below hal)
    have F4 := Lib.hid (F3.out.below hal)
    clear hal HA3 HW3 K3 F3
    have cK4_0 := show (w3.alloc (.cells #[.int .i64 x.on] 3)).cell? ⟨w.heap.size, 0, none⟩ = some (.slice A0 x.phis.length c0) from (K4.out.cell 0).trans rfl
    have cK4_1 := show (w3.alloc (.cells #[.int .i64 x.on] 3)).cell? ⟨w.heap.size, 1, none⟩ = some (.slice A1 x.ins.length c1) from (K4.out.cell 1).trans rfl
    have cK4_2 := show (w3.alloc (.cells #[.int .i64 x.on] 3)).cell? ⟨w.heap.size, 2, none⟩ = some (.int .i64 x.jump) from (K4.out.cell 2).trans rfl
    have cK4_3 := show (w3.alloc (.cells #[.int .i64 x.on] 3)).cell? ⟨w.heap.size, 3, none⟩ = some (.int .i64 x.on) from (K4.out.cell 3).trans rfl
    have cK4_4 := show (w3.alloc (.cells #[.int .i64 x.on] 3)).cell? ⟨w.heap.size, 4, none⟩ = some (.slice A4 x.next.length c4) from (K4.out.cell 4).trans rfl
    have cF4_0 := show (w3.alloc (.cells #[.int .i64 x.on] 3)).cell? ⟨w1.heap.size, 0, none⟩ = some (.string nm) from (F4.out.cell 0).trans rfl
    have cF4_1 := show (w3.alloc (.cells #[.int .i64 x.on] 3)).cell? ⟨w1.heap.size, 1, none⟩ = some (.bool true) from (F4.out.cell 1).trans rfl
    have cF4_2 := show (w3.alloc (.cells #[.int .i64 x.on] 3)).cell? ⟨w1.heap.size, 2, none⟩ = some (.int .i64 ar) from (F4.out.cell 2).trans rfl
    have cN4_0 := show (w3.alloc (.cells #[.int .i64 x.on] 3)).cell? ⟨w3.heap.size, 0, none⟩ = some (.int .i64 x.on) from (N4.out.cell 0).trans rfl
    have HRN := Lib.hid (show ∀ W, Below B (w3.alloc (.cells #[.int .i64 x.on] 3)) W → Aside b (w3.alloc (.cells #[.int .i64 x.on] 3)) W → NumS W (Lt W.heap.size) [x.on] (some ⟨w3.heap.size, 0, none⟩) from fun W h ha => NumS.mk (Bx.lt (N4.out.aside ha (by decide) hNb)) (fun j hj => by
      have hj0 : j = 0 := by simp at hj; omega
      subst hj0
      exact ((N4.out.aside ha (by decide) hNb).cell 0).trans rfl))
    have S4 := writeRegs_any B b (bs ++ jNm x.jump) [x.on] (fun y hy => by rw [List.mem_singleton.1 hy]; exact HP.out.on) (some ⟨w3.heap.size, 0, none⟩) 1 (w3.alloc (.cells #[.int .i64 x.on] 3)) (HE.out.next hb_4) HW4.out HRN.out (by have := HLEN.out; simp only [List.length_append, List.length_cons, List.length_nil] at *; omega) (by show 1 ≤ _; omega)
    rw [show [x.on].length = 1 from rfl] at S4
    replace S4 := Lib.hid S4
    go_wp2_with fail
    generalize w3.alloc (.cells #[.int .i64 x.on] 3) = w4 at *
    clear cK3_0 cK3_1 cK3_2 cK3_3 cK3_4 cF3_0 cF3_1 cF3_2
    (with_reducible refine Calls.mono S4.out ?_)
    rintro ee w5 hret
    obtain ⟨rfl, hwn, hbn, han⟩ := hret
    have hb_5 := hb_4.trans hbn
    have hE_5 := Nat.le_trans hE_4 hbn.size
    have HA5 := Lib.hid (HA4.out.trans han)
    have HW5 := Lib.hid hwn
    have K5 := Lib.hid (K4.out.aside han (by decide) hKb)
    have F5 := Lib.hid (F4.out.aside han (by decide) hFb)
    have N5 := Lib.hid (N4.out.aside han (by decide) hNb)
    clear hwn hbn han cK4_0 cK4_1 cK4_2 cK4_3 cK4_4 cF4_0 cF4_1 cF4_2 cN4_0 HA4 HW4 K4 F4 N4
    have cK5_0 := show w5.cell? ⟨w.heap.size, 0, none⟩ = some (.slice A0 x.phis.length c0) from (K5.out.cell 0).trans rfl
    have cK5_1 := show w5.cell? ⟨w.heap.size, 1, none⟩ = some (.slice A1 x.ins.length c1) from (K5.out.cell 1).trans rfl
    have cK5_2 := show w5.cell? ⟨w.heap.size, 2, none⟩ = some (.int .i64 x.jump) from (K5.out.cell 2).trans rfl
    have cK5_3 := show w5.cell? ⟨w.heap.size, 3, none⟩ = some (.int .i64 x.on) from (K5.out.cell 3).trans rfl
    have cK5_4 := show w5.cell? ⟨w.heap.size, 4, none⟩ = some (.slice A4 x.next.length c4) from (K5.out.cell 4).trans rfl
    have cF5_0 := show w5.cell? ⟨w1.heap.size, 0, none⟩ = some (.string nm) from (F5.out.cell 0).trans rfl
    have cF5_1 := show w5.cell? ⟨w1.heap.size, 1, none⟩ = some (.bool true) from (F5.out.cell 1).trans rfl
    have cF5_2 := show w5.cell? ⟨w1.heap.size, 2, none⟩ = some (.int .i64 ar) from (F5.out.cell 2).trans rfl
    have cN5_0 := show w5.cell? ⟨w3.heap.size, 0, none⟩ = some (.int .i64 x.on) from (N5.out.cell 0).trans rfl
    go_wp2_with fail
    go_loopw [24] (fun i wr => ∃ k : Nat, k ≤ x.next.length ∧ i = .int .i64 k ∧ Wr B b (bs ++ jNm x.jump ++ catT regT [x.on] ++ catT numT (x.next.take k)) wr ∧ Below B w wr ∧ Aside b w wr) (fun i _ => x.next.length - (intOf i).toNat)
    case atStart => exact ⟨0, Nat.zero_le _, rfl, by rw [List.take_zero]; show Wr B b (bs ++ jNm x.jump ++ catT regT [x.on] ++ []) _; rw [List.append_nil]; exact HW5.out, hb_5, HA5.out⟩
    case round =>
      clear cK5_0 cK5_1 cK5_2 cK5_3 cK5_4 cF5_0 cF5_1 cF5_2 cN5_0 HW5 HA5 hb_5 hE_5 K5 F5 N5
      obtain ⟨k, hk, rfl, hw, hb, ha⟩ := hrel
      have HWk := Lib.hid hw
      have HA := Lib.hid ha
      clear hw ha
      by_cases hlt : k < x.next.length
      · obtain ⟨bb, o, rfl, hB, c0⟩ := (HR.out wr hb).at_ hlt
        have hs : SmN x.next[k] := HP.out.next _ (List.getElem_mem hlt)
        have hpre := catT_pre numT x.next k
        have HN := Lib.hid (catT_take numT hlt)
        have C := Lib.hid (itoa_te B x.next[k] hs wr (HE.out.next hb))
        have hTE := (HE.out.next hb).le
        have HT := Lib.hid (show (⟨#[32]⟩ : ByteArray) ++ tx (Lib.itoa x.next[k]) = tx (numT x.next[k]) from tx_cons 32 _)
        have hq := numT_le hs
        have hz := tx_size (Lib.itoa x.next[k])
        have hi := itoaS hs
        have WS := fun W (h : Below wr.heap.size wr W) => Lib.hid (ws_any B b (bs ++ jNm x.jump ++ catT regT [x.on] ++ catT numT (x.next.take k)) (numT x.next[k]) _ HT.out W (HWk.out.below h) (by have := HLEN.out; simp only [List.length_append, List.length_cons, List.length_nil, catT, regT] at *; omega) (by have := h.size; omega))
        unfold TxRet at C
        generalize tx (Lib.itoa x.next[k]) = t at *
        generalize numT x.next[k] = rt at *
        generalize x.next[k] = y at *
        have ht : t.size ≤ 21 := by omega
        clear hz hi hs hpre hq
        go_wp2_with fail
        (with_reducible refine Calls.mono C.out ?_)
        rintro ee v1 ⟨rfl, hb1⟩
        have WS1 := Lib.hid (WS v1 hb1).out
        have hb2 := hb.trans (hb1.mono hTE)
        have HA2 := Lib.hid (HA.out.trans (Aside.of_below hb1))
        clear hb1 WS HA c0
        go_wp2_with fail
        (with_reducible refine Calls.mono WS1.out ?_)
        rintro ee v2 ⟨rfl, hw2, hb3, ha3⟩
        have HW2 := Lib.hid hw2
        have HA3 := Lib.hid (HA2.out.trans ha3)
        have hb4 := hb2.trans hb3
        clear hw2 ha3 hb3
        go_wp2_with fail
        go_roundw
        case rel => exact ⟨k + 1, by omega, by go_num, by rw [HN.out, ← List.append_assoc]; exact HW2.out, hb4, HA3.out⟩
        case measure => simp only [intOf]; omega
      · obtain rfl : k = x.next.length := by omega
        have HT := Lib.hid (List.take_length (l := x.next))
        have WS1 := Lib.hid (ws_any B b (bs ++ jNm x.jump ++ catT regT [x.on] ++ catT numT x.next) [10] ⟨#[10]⟩ rfl wr (by have := HWk.out; rw [HT.out] at this; exact this) (by have := HLEN.out; simp only [List.length_append, List.length_cons, List.length_nil, catT, regT] at *; omega) ((HE.out.next hb).le))
        go_wp2_with fail
        (with_reducible refine Calls.mono WS1.out ?_)
        rintro ee v2 ⟨rfl, hw2, hb3, ha3⟩
        have HW2 := Lib.hid hw2
        have HA3 := Lib.hid (HA.out.trans ha3)
        have hb4 := hb.trans hb3
        clear hw2 ha3 hb3
        go_wp2_with fail
        go_end0
        exact ⟨rfl, by have h := HW2.out; rw [HLAST.out]; simpa [catT, regT] using h, hb4, HA3.out⟩
end Go.Proofs.YtomhomnibikceaaDoor
