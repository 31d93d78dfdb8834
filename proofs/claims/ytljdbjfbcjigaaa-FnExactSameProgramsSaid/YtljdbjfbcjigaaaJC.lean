/-
  Statements compared by the program, but for their blocks; the blocks of a statement.
-/
import Derived.Test.YtljdbjfbcjigaaaJB
import Derived.Test.YtljdbjfbcjigaaaGC
namespace Go.Proofs.Ytljdbjfbcjigaaa
open Go.RowKit
set_option maxRecDepth 100000

theorem PdS.at_ {w : World} {S : Nat → Prop} {ks : List E} {A : Option Addr} (h : PdS w S ks A) {i : Nat} (hi : i < ks.length) : ∃ b o, A = some ⟨b, o, none⟩ ∧ S b ∧ PdAt w S ks[i] b (o + i * 4) := by
  rcases h with h | ⟨b, o, e, hb, hc⟩
  · subst h; exact absurd hi (by simp)
  · exact ⟨b, o, e, hb, hc.get hi⟩
open Classical in
set_option maxHeartbeats 4000000 in
theorem equalExprs_any (ks ls : List E) (A B : Option Addr) (c d : Nat) (w : World) (hA : PdS w (Between w 0 w.heap.size) ks A) (hB : PdS w (Between w 0 w.heap.size) ls B) (hk : bulkL ks ≤ 2000000) (hl : bulkL ls ≤ 2000000) :
    Calls Try.prog 28 #[.slice A ks.length c, .slice B ls.length d, .func (.func 29) #[] #[]] w (BoolB (decide (ks = ls)) w) := by
  have hn : ks.length ≤ 2000000 := by have := length_le_sizeL ks; have := sizeL_bulk ks; omega
  have hn' : ls.length ≤ 2000000 := by have := length_le_sizeL ls; have := sizeL_bulk ls; omega
  by_cases h4 : ks.length = ls.length
  · have p4 : ((ks.length : Int) != (ls.length : Int)) = false := by rw [h4]; simp
    have HL := Lib.hid h4
    have HA := Lib.hid hA
    have HB := Lib.hid hB
    have HKS := Lib.hid hk
    have HLS := Lib.hid hl
    clear h4 hA hB hk hl
    go_enter Try.func28, Try.ntmps28
    go_wp2_with fail
    go_loopw [17] (fun i wr => ∃ (k : Nat), k ≤ ks.length ∧ i = .int .i64 k ∧ (∀ j, (h : j < ks.length) → (h' : j < ls.length) → j < k → ks[j] = ls[j]) ∧ Below w.heap.size w wr) (fun i _ => ks.length - (intOf i).toNat)
    case atStart => exact ⟨0, Nat.zero_le _, rfl, fun j _ _ hj => absurd hj (by omega), Below.refl _ _⟩
    case round =>
      obtain ⟨k, hk, rfl, hall, hb⟩ := hrel
      have hbs := hb.size
      by_cases hltk : k < ks.length
      · have hlt' : k < ls.length := by have := HL.out; omega
        have hltk' : (k : Int) < ls.length := by omega
        obtain ⟨b, o, rfl, hSb, ⟨⟨c0, c1, c2⟩, A1, cap1, c3, hr⟩⟩ := HA.out.at_ hltk
        obtain ⟨b', o', rfl, hSb', ⟨⟨d0, d1, d2⟩, A2, cap2, d3, hr'⟩⟩ := HB.out.at_ hlt'
        have hm1 : bulkE ks[k] ≤ 2000000 := by have := bulkL_mem (List.getElem_mem hltk); have := HKS.out; omega
        have hm2 : bulkE ls[k] ≤ 2000000 := by have := bulkL_mem (List.getElem_mem hlt'); have := HLS.out; omega
        have CK := fun W (h : Below w.heap.size w W) => implSame_walk ks[k] ls[k] A1 cap1 A2 cap2 W (hr.later h (Nat.le_refl _) h.size) (hr'.later h (Nat.le_refl _) h.size) hm1 hm2
        have HAL := Lib.hid hall; clear hall hm1 hm2 hr hr'
        have hBr := hSb.2.1
        have hBr' := hSb'.2.1
        generalize hs0 : ks[k] = x at *
        generalize hs1 : ls[k] = x' at *
        have HS := Lib.hid hs0; clear hs0
        have HS' := Lib.hid hs1; clear hs1
        unfold exV at CK
        have HN : Hid (eqB x x' = false → ks ≠ ls) := Lib.hid fun hd e => by
          have h1 := HS.out
          have h2 := HS'.out
          simp only [e] at h1
          rw [← h1, ← h2, eqB_yes] at hd
          cases hd
        have HD : Hid (eqB x x' = true → x = x') := Lib.hid (eqB_iff _ _).1
        generalize eqB x x' = z at *
        replace c0 := (hb.cell (p := ⟨b, o + k * 4, none⟩) hBr).trans c0
        replace c1 := (hb.cell (p := ⟨b, o + k * 4 + 1, none⟩) hBr).trans c1
        replace c2 := (hb.cell (p := ⟨b, o + k * 4 + 2, none⟩) hBr).trans c2
        replace c3 := (hb.cell (p := ⟨b, o + k * 4 + 3, none⟩) hBr).trans c3
        have hBw : b' < wr.heap.size := Nat.lt_of_lt_of_le hBr' hbs
        replace d0 := (hb.cell (p := ⟨b', o' + k * 4, none⟩) hBr').trans d0
        replace d1 := (hb.cell (p := ⟨b', o' + k * 4 + 1, none⟩) hBr').trans d1
        replace d2 := (hb.cell (p := ⟨b', o' + k * 4 + 2, none⟩) hBr').trans d2
        replace d3 := (hb.cell (p := ⟨b', o' + k * 4 + 3, none⟩) hBr').trans d3
        have hal1 := (Below.refl wr.heap.size wr).alloc (Nat.le_refl _) (.cells #[.int .i64 x.op, .int .i64 x.n, .string x.name, .slice A1 x.kids.length cap1] 52)
        replace d0 := (hal1.cell (p := ⟨b', o' + k * 4, none⟩) hBw).trans d0
        replace d1 := (hal1.cell (p := ⟨b', o' + k * 4 + 1, none⟩) hBw).trans d1
        replace d2 := (hal1.cell (p := ⟨b', o' + k * 4 + 2, none⟩) hBw).trans d2
        replace d3 := (hal1.cell (p := ⟨b', o' + k * 4 + 3, none⟩) hBw).trans d3
        obtain ⟨⟨s0, s1, s2, s3⟩, ⟨t0, t1, t2, t3⟩, _, hal⟩ := two4 wr (.int .i64 x.op) (.int .i64 x.n) (.string x.name) (.slice A1 x.kids.length cap1) (.int .i64 x'.op) (.int .i64 x'.n) (.string x'.name) (.slice A2 x'.kids.length cap2) 52 52
        have hbal := hb.trans (hal.mono hbs)
        have CK1 := Lib.hid (CK _ hbal)
        clear CK
        go_wp2_with fail
        (with_reducible refine Calls.mono CK1.out ?_)
        rintro ee w3 ⟨rfl, hb3⟩
        have hb4 := hbal.trans (hb3.mono hbal.size)
        clear hb3 hal1 hal hbal c0 c1 c2 c3 d0 d1 d2 d3 s0 s1 s2 s3 t0 t1 t2 t3 CK1
        cases z
        · have HF := Lib.hid (HN.out (by trivial))
          go_wp2_with fail
          go_ret
          exact ⟨ret_bool (by rw [eq_comm, decide_eq_false_iff_not]; exact HF.out), hb4⟩
        · go_wp2_with fail
          go_roundw
          case rel => exact ⟨k + 1, by omega, by go_num, fun j h1 h2 hjk => by
            by_cases e : j = k
            · subst e; exact (HS.out.trans (HD.out (by trivial))).trans HS'.out.symm
            · exact HAL.out j h1 h2 (by omega), hb4⟩
          case measure => simp only [intOf]; omega
      · obtain rfl : k = ks.length := by omega
        have HAL := Lib.hid hall
        clear hall
        go_wp2_with fail
        go_ret
        refine ⟨ret_bool ?_, hb⟩
        rw [eq_comm, decide_eq_true_eq]
        exact List.ext_getElem HL.out (fun j h1 h2 => HAL.out j h1 h2 h1)
  · have p4 : ((ks.length : Int) == (ls.length : Int)) = false := beq_no (by omega)
    have p5 : ((ks.length : Int) != (ls.length : Int)) = true := by rw [bne, p4]; rfl
    have HC := Lib.hid h4; clear h4
    go_enter Try.func28, Try.ntmps28
    go_wp2_with fail
    go_ret
    exact ⟨ret_bool (by rw [eq_comm, decide_eq_false_iff_not]; intro h; exact HC.out (by rw [h])), Below.refl _ _⟩
open Classical in
set_option maxHeartbeats 2000000 in
theorem sameBesideT_any (x y : Sp) (w : World) (hx : PdS w (Between w 0 w.heap.size) x.t.args x.A1) (hy : PdS w (Between w 0 w.heap.size) y.t.args y.A1) (hk : bulkL x.t.args ≤ 2000000) (hl : bulkL y.t.args ≤ 2000000) :
    Calls Try.prog 21 #[.agg x.cells.toArray, .agg y.cells.toArray] w (BoolB (besT x.t y.t) w) := by
  unfold Sp.cells
  have hb := two_boxes w (.cells #[.int .i64 x.t.op, .string x.t.name, .slice x.A1 x.t.args.length x.c1, .slice x.A2 x.t.body.length x.c2, .slice x.A3 x.t.els.length x.c3] 49) (.cells #[.int .i64 y.t.op, .string y.t.name, .slice y.A1 y.t.args.length y.c1, .slice y.A2 y.t.body.length y.c2, .slice y.A3 y.t.els.length y.c3] 49)
  have EQ := equalExprs_any x.t.args y.t.args x.A1 y.A1 x.c1 y.c1 _ (hx.later hb (Nat.le_refl _) hb.size) (hy.later hb (Nat.le_refl _) hb.size) hk hl
  have HQ := Lib.hid (show besT x.t y.t = decide (x.t.op = y.t.op ∧ x.t.name = y.t.name ∧ x.t.args = y.t.args) from rfl)
  have HE := Lib.hid (show decide (x.t.args = y.t.args) = true → x.t.args = y.t.args from of_decide_eq_true)
  have HE' := Lib.hid (show decide (x.t.args = y.t.args) = false → x.t.args ≠ y.t.args from of_decide_eq_false)
  clear hx hy hk hl
  generalize decide (x.t.args = y.t.args) = za at *
  replace EQ := Lib.hid EQ
  generalize besT x.t y.t = z at *
  by_cases h1 : x.t.op = y.t.op
  · have p1 : (x.t.op == y.t.op) = true := beq_yes h1
    by_cases h2 : x.t.name = y.t.name
    · have p2 : (x.t.name.toList == y.t.name.toList) = true := by rw [h2]; simp
      have H12 := Lib.hid (And.intro h1 h2)
      clear h1 h2
      go_enter Try.func21, Try.ntmps21
      go_wp2_with fail
      (with_reducible refine Calls.mono EQ.out ?_)
      rintro ee w3 ⟨rfl, hb3⟩
      have hb4 := hb.trans (hb3.mono hb.size)
      go_wp2_with fail
      go_ret
      refine ⟨ret_bool ?_, hb4⟩
      rw [HQ.out]
      cases za
      · rw [eq_comm, decide_eq_false_iff_not]; exact fun h => HE'.out rfl h.2.2
      · rw [eq_comm, decide_eq_true_eq]; exact ⟨H12.out.1, H12.out.2, HE.out rfl⟩
    · have e2 : (x.t.name.toList == y.t.name.toList) = false := str_eq_false h2
      have HC := Lib.hid h2; clear h2 h1
      go_enter Try.func21, Try.ntmps21
      go_wp2_with fail
      go_ret
      exact ⟨ret_bool (by rw [HQ.out, eq_comm, decide_eq_false_iff_not]; exact fun h => HC.out h.2.1), hb⟩
  · have e1 : (x.t.op == y.t.op) = false := beq_no h1
    have HC := Lib.hid h1; clear h1
    go_enter Try.func21, Try.ntmps21
    go_wp2_with fail
    go_ret
    exact ⟨ret_bool (by rw [HQ.out, eq_comm, decide_eq_false_iff_not]; exact fun h => HC.out h.1), hb⟩
set_option maxHeartbeats 1000000 in
/-- The lists below a statement: two. -/
theorem blocksOf_any (x : Sp) (w : World) :
    Calls Try.prog 22 #[.agg x.cells.toArray] w fun ee w' => ∃ g, w.heap.size ≤ g ∧ ee = .returned (.slice (some ⟨g, 0, none⟩) 2 2) ∧ (∀ k, k < 2 → w'.cell? ⟨g, k, none⟩ = some (.slice (x.ad k) (lstT x.t k).length (x.cp k))) ∧ g < w'.heap.size ∧ Below w.heap.size w w' := by
  unfold Sp.cells
  have hb1 := (Below.refl w.heap.size w).alloc (Nat.le_refl _) (.cells #[.int .i64 x.t.op, .string x.t.name, .slice x.A1 x.t.args.length x.c1, .slice x.A2 x.t.body.length x.c2, .slice x.A3 x.t.els.length x.c3] 49)
  have k3 : (w.alloc (.cells #[.int .i64 x.t.op, .string x.t.name, .slice x.A1 x.t.args.length x.c1, .slice x.A2 x.t.body.length x.c2, .slice x.A3 x.t.els.length x.c3] 49)).cell? ⟨w.heap.size, 3, none⟩ = some (.slice x.A2 x.t.body.length x.c2) := alloc_cell w _ _ (0, 0) 3
  have k4 : (w.alloc (.cells #[.int .i64 x.t.op, .string x.t.name, .slice x.A1 x.t.args.length x.c1, .slice x.A2 x.t.body.length x.c2, .slice x.A3 x.t.els.length x.c3] 49)).cell? ⟨w.heap.size, 4, none⟩ = some (.slice x.A3 x.t.els.length x.c3) := alloc_cell w _ _ (0, 0) 4
  go_enter Try.func22, Try.ntmps22
  go_upto_region 1 with (fail)
  generalize w.alloc (.cells #[.int .i64 x.t.op, .string x.t.name, .slice x.A1 x.t.args.length x.c1, .slice x.A2 x.t.body.length x.c2, .slice x.A3 x.t.els.length x.c3] 49) = w1 at *
  have hb2 := hb1.trans (((Below.refl w1.heap.size w1).alloc (Nat.le_refl _) (.cells #[.slice x.A2 x.t.body.length x.c2, .slice x.A3 x.t.els.length x.c3] 34)).mono hb1.size)
  have HC := Lib.hid (show ∀ k, k < 2 → (w1.alloc (.cells #[.slice x.A2 x.t.body.length x.c2, .slice x.A3 x.t.els.length x.c3] 34)).cell? ⟨w1.heap.size, k, none⟩ = some (.slice (x.ad k) (lstT x.t k).length (x.cp k)) from fun k hk => by
    have h2 : k = 0 ∨ k = 1 := by omega
    rcases h2 with rfl | rfl
    · exact alloc_cell w1 _ _ (0, 0) 0
    · exact alloc_cell w1 _ _ (0, 0) 1)
  have hgs := hb1.size
  have hl : w1.heap.size < (w1.alloc (.cells #[.slice x.A2 x.t.body.length x.c2, .slice x.A3 x.t.els.length x.c3] 34)).heap.size := by rw [World.size_alloc]; omega
  go_wp2_with fail
  go_ret
  exact ⟨_, hgs, rfl, HC.out, hl, hb2⟩
end Go.Proofs.Ytljdbjfbcjigaaa
