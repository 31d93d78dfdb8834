/-
  Functions, programs compared by the program.
-/
import Derived.Test.YtljdbjfbcjigaaaJD
import Derived.Test.YtljdbjfbcjigaaaP1
namespace Go.Proofs.Ytljdbjfbcjigaaa
open Go.RowKit
set_option maxRecDepth 100000

theorem fu_ext {a b : Fu} (h1 : a.name = b.name) (h2 : a.params = b.params) (h3 : a.body = b.body) : a = b := by
  cases a; cases b; simp_all
open Classical in
theorem sameBodies_any (ks ls : List St) (A B : Option Addr) (c d : Nat) (w : World) (hk : StS w (Between w 0 w.heap.size) ks A) (hl : StS w (Between w 0 w.heap.size) ls B) (hbk : bulkTL ks ≤ 1990000) (hbl : bulkTL ls ≤ 1990000) :
    Calls Try.prog 20 #[.agg #[.int .i64 0, .string ⟨#[]⟩, .slice none 0 0, .slice A ks.length c, .slice none 0 0], .agg #[.int .i64 0, .string ⟨#[]⟩, .slice none 0 0, .slice B ls.length d, .slice none 0 0], .func (.func 21) #[] #[], .func (.func 22) #[] #[]] w (BoolB (decide (ks = ls)) w) := by
  have e : sameTB (.mk 0 ⟨#[]⟩ [] ks []) (.mk 0 ⟨#[]⟩ [] ls []) = decide (ks = ls) := by
    by_cases h : ks = ls
    · subst h; rw [sameTB_yes, decide_eq_true rfl]
    · rw [sameTB_no (fun e => h (by injection e)), decide_eq_false h]
  rw [← e]
  have bz : ∀ ks : List St, bulkT (.mk 0 ⟨#[]⟩ [] ks []) = (⟨#[]⟩ : ByteArray).size + 0 + bulkTL ks + 0 := fun _ => rfl
  have z0 : (⟨#[]⟩ : ByteArray).size = 0 := rfl
  refine sameTreesT_walk ⟨.mk 0 ⟨#[]⟩ [] ks [], none, 0, A, c, none, 0⟩ ⟨.mk 0 ⟨#[]⟩ [] ls [], none, 0, B, d, none, 0⟩ w ⟨.inl rfl, fun k => ?_, ?_⟩ ⟨.inl rfl, fun k => ?_, ?_⟩
  · unfold lstT Sp.ad
    dsimp only [St.body, St.els]
    by_cases h : k = 0
    · rw [if_pos h, if_pos h]; exact hk
    · rw [if_neg h, if_neg h]; exact .inl rfl
  · show bulkT (.mk 0 ⟨#[]⟩ [] ks []) ≤ 2000000
    rw [bz]; omega
  · unfold lstT Sp.ad
    dsimp only [St.body, St.els]
    by_cases h : k = 0
    · rw [if_pos h, if_pos h]; exact hl
    · rw [if_neg h, if_neg h]; exact .inl rfl
  · show bulkT (.mk 0 ⟨#[]⟩ [] ls []) ≤ 2000000
    rw [bz]; omega
open Classical in
set_option maxHeartbeats 2000000 in
theorem equalStrs_any (ks ls : List ByteArray) (A B : Option Addr) (c d : Nat) (w : World) (hA : StrS w (Lt w.heap.size) ks A) (hB : StrS w (Lt w.heap.size) ls B) (hn : ks.length ≤ 2000000) (_hn' : ls.length ≤ 2000000) :
    Calls Try.prog 19 #[.slice A ks.length c, .slice B ls.length d] w (BoolB (decide (ks = ls)) w) := by
  by_cases h4 : ks.length = ls.length
  · have p4 : ((ks.length : Int) != (ls.length : Int)) = false := by rw [h4]; simp
    have HL := Lib.hid h4
    have HA := Lib.hid hA
    have HB := Lib.hid hB
    clear h4 hA hB
    go_enter Try.func19, Try.ntmps19
    go_wp2_with fail
    go_loopw [13] (fun i wr => ∃ (k : Nat), k ≤ ks.length ∧ i = .int .i64 k ∧ (∀ j, (h : j < ks.length) → (h' : j < ls.length) → j < k → ks[j] = ls[j]) ∧ Below w.heap.size w wr) (fun i _ => ks.length - (intOf i).toNat)
    case atStart => exact ⟨0, Nat.zero_le _, rfl, fun j _ _ hj => absurd hj (by omega), Below.refl _ _⟩
    case round =>
      obtain ⟨k, hk, rfl, hall, hb⟩ := hrel
      by_cases hltk : k < ks.length
      · have hlt' : k < ls.length := by have := HL.out; omega
        have hltk' : (k : Int) < ls.length := by omega
        obtain ⟨b, o, rfl, _, c0⟩ := (HA.out.on hb hb.size).at_ hltk
        obtain ⟨b', o', rfl, _, d0⟩ := (HB.out.on hb hb.size).at_ hlt'
        have HAL := Lib.hid hall; clear hall
        generalize hs0 : ks[k] = x at *
        generalize hs1 : ls[k] = x' at *
        have HS := Lib.hid hs0; clear hs0
        have HS' := Lib.hid hs1; clear hs1
        have hdr := below_drewN hb 0
        by_cases hxx : x = x'
        · have p1 : (x.toList == x'.toList) = true := by rw [hxx]; simp
          have p2 : (x.toList != x'.toList) = false := by rw [bne, p1]; rfl
          have HX := Lib.hid hxx
          clear hxx hdr
          go_wp2_with fail
          go_quiet (fail)
          have hdn := fun q => below_drewN hb q
          go_wp2_with fail
          go_roundw
          case rel => exact ⟨k + 1, by omega, by go_num, fun j h1 h2 hjk => by
            by_cases e : j = k
            · subst e; exact (HS.out.trans HX.out).trans HS'.out.symm
            · exact HAL.out j h1 h2 (by omega), hdn _⟩
          case measure => simp only [intOf]; omega
        · have p1 : (x.toList == x'.toList) = false := str_eq_false hxx
          have p2 : (x.toList != x'.toList) = true := by rw [bne, p1]; rfl
          have HX := Lib.hid (show ks ≠ ls from fun e => hxx (by have h1 := HS.out; have h2 := HS'.out; simp only [e] at h1; rw [← h1, ← h2]))
          clear hxx hdr
          go_wp2_with fail
          go_quiet (fail)
          have hdn := fun q => below_drewN hb q
          go_wp2_with fail
          go_ret
          exact ⟨ret_bool (by rw [eq_comm, decide_eq_false_iff_not]; exact HX.out), hdn _⟩
      · obtain rfl : k = ks.length := by omega
        have HAL := Lib.hid hall
        clear hall
        go_wp2_with fail
        go_ret
        refine ⟨ret_bool ?_, hb⟩
        rw [eq_comm, decide_eq_true_eq]
        exact List.ext_getElem HL.out (fun j h1 h2 => HAL.out j h1 h2 h1)
  · have p4 : ((ks.length : Int) == (ls.length : Int)) = false := beq_no (by omega)
    have p5 : ((ks.length : Int) != (ls.length : Int)) = true := by rw [bne, p4]; rfl
    have HC := Lib.hid h4; clear h4
    go_enter Try.func19, Try.ntmps19
    go_wp2_with fail
    go_ret
    exact ⟨ret_bool (by rw [eq_comm, decide_eq_false_iff_not]; intro h; exact HC.out (by rw [h])), Below.refl _ _⟩
open Classical in
noncomputable def sameFB (f g : Fu) : Bool := decide (f = g)
open Classical in
theorem sameFB_no {f g : Fu} (h : f ≠ g) : sameFB f g = false := by unfold sameFB; rw [decide_eq_false_iff_not]; exact h
open Classical in
theorem sameFB_iff (f g : Fu) : sameFB f g = true ↔ f = g := by unfold sameFB; rw [decide_eq_true_eq]
open Classical in
set_option maxHeartbeats 4000000 in
theorem sameFns_any (f h : Fu) (A1 A2 B1 B2 : Option Addr) (p1 p2 q1 q2 : Nat) (w : World) (hA1 : StrS w (Between w 0 w.heap.size) f.params A1) (hA2 : StS w (Between w 0 w.heap.size) f.body A2) (hB1 : StrS w (Between w 0 w.heap.size) h.params B1) (hB2 : StS w (Between w 0 w.heap.size) h.body B2) (hbf : bulkF f ≤ 1990000) (hbh : bulkF h ≤ 1990000) :
    Calls Try.prog 14 #[.agg #[.string f.name, .slice A1 f.params.length p1, .slice A2 f.body.length p2], .agg #[.string h.name, .slice B1 h.params.length q1, .slice B2 h.body.length q2]] w (BoolB (sameFB f h) w) := by
  unfold bulkF at hbf hbh
  have hl1 := length_le_bulkS f.params
  have hl2 := length_le_bulkS h.params
  have hb := two_boxes w (.cells #[.string f.name, .slice A1 f.params.length p1, .slice A2 f.body.length p2] 36) (.cells #[.string h.name, .slice B1 h.params.length q1, .slice B2 h.body.length q2] 36)
  have lt0 : ∀ {W : World} {l : List ByteArray} {A : Option Addr}, StrS W (Between W 0 W.heap.size) l A → StrS W (Lt W.heap.size) l A := fun h => h.keep (fun _ _ _ => rfl) fun _ h => h.2.1
  have ES := fun W (hw : Below w.heap.size w W) => Lib.hid (equalStrs_any f.params h.params A1 B1 p1 q1 W (lt0 (hA1.later hw (Nat.le_refl _) hw.size)) (lt0 (hB1.later hw (Nat.le_refl _) hw.size)) (by omega) (by omega))
  have TS := fun W (hw : Below w.heap.size w W) => Lib.hid (sameBodies_any f.body h.body A2 B2 p2 q2 W (hA2.later hw (Nat.le_refl _) hw.size) (hB2.later hw (Nat.le_refl _) hw.size) (by omega) (by omega))
  have HP := Lib.hid (show (decide (f.params = h.params) = true → f.params = h.params) ∧ (decide (f.params = h.params) = false → f.params ≠ h.params) from ⟨of_decide_eq_true, of_decide_eq_false⟩)
  have HQ := Lib.hid (show (decide (f.body = h.body) = true → f.body = h.body) ∧ (decide (f.body = h.body) = false → f.body ≠ h.body) from ⟨of_decide_eq_true, of_decide_eq_false⟩)
  clear hA1 hA2 hB1 hB2 lt0 hbf hbh hl1 hl2
  obtain ⟨nm, ps, bd⟩ := f
  obtain ⟨nm', ps', bd'⟩ := h
  dsimp only at *
  generalize decide (ps = ps') = zp at *
  generalize decide (bd = bd') = zb at *
  have HR := Lib.hid (show nm = nm' → ps = ps' → bd = bd' → sameFB ⟨nm, ps, bd⟩ ⟨nm', ps', bd'⟩ = true from fun a b c => by subst a b c; exact (sameFB_iff _ _).2 rfl)
  have HR1 := Lib.hid (show nm ≠ nm' → sameFB ⟨nm, ps, bd⟩ ⟨nm', ps', bd'⟩ = false from fun a => sameFB_no fun e => a (by injection e))
  have HR2 := Lib.hid (show ps ≠ ps' → sameFB ⟨nm, ps, bd⟩ ⟨nm', ps', bd'⟩ = false from fun a => sameFB_no fun e => a (by injection e))
  have HR3 := Lib.hid (show bd ≠ bd' → sameFB ⟨nm, ps, bd⟩ ⟨nm', ps', bd'⟩ = false from fun a => sameFB_no fun e => a (by injection e))
  generalize sameFB ⟨nm, ps, bd⟩ ⟨nm', ps', bd'⟩ = z at *
  have s1 : (w.alloc (.cells #[.string nm, .slice A1 ps.length p1, .slice A2 bd.length p2] 36)).heap.size = w.heap.size + 1 := World.size_alloc _ _
  have x2 : ((w.alloc (.cells #[.string nm, .slice A1 ps.length p1, .slice A2 bd.length p2] 36)).alloc (.cells #[.string nm', .slice B1 ps'.length q1, .slice B2 bd'.length q2] 36)).cell? ⟨w.heap.size, 2, none⟩ = some (.slice A2 bd.length p2) := (((Below.refl _ (w.alloc (.cells #[.string nm, .slice A1 ps.length p1, .slice A2 bd.length p2] 36))).alloc (Nat.le_refl _) (.cells #[.string nm', .slice B1 ps'.length q1, .slice B2 bd'.length q2] 36)).cell (p := ⟨w.heap.size, 2, none⟩) (by show w.heap.size < _; rw [s1]; omega)).trans (alloc_cell w _ _ (0, 0) 2)
  have y2 := alloc_cell (w.alloc (.cells #[.string nm, .slice A1 ps.length p1, .slice A2 bd.length p2] 36)) #[.string nm', .slice B1 ps'.length q1, .slice B2 bd'.length q2] 36 (0, 0) 2
  rw [s1] at y2
  have X2 := Lib.hid (And.intro x2 (show _ = some (Value.slice B2 bd'.length q2) from y2))
  have hz2 : ((w.alloc (.cells #[.string nm, .slice A1 ps.length p1, .slice A2 bd.length p2] 36)).alloc (.cells #[.string nm', .slice B1 ps'.length q1, .slice B2 bd'.length q2] 36)).heap.size = w.heap.size + 2 := by rw [World.size_alloc, s1]
  have HZ2 := Lib.hid hz2
  clear x2 y2 hz2 s1
  by_cases h1 : nm = nm'
  · have e1 : (nm.toList == nm'.toList) = true := by rw [h1]; simp
    have H1 := Lib.hid h1
    clear h1
    have ES1 := Lib.hid (ES _ hb).out
    go_enter Try.func14, Try.ntmps14
    go_wp2_with fail
    (with_reducible refine Calls.mono ES1.out ?_)
    rintro ee w3 ⟨rfl, hb3⟩
    have hz := HZ2.out
    have m2 := (hb3.cell (p := ⟨w.heap.size, 2, none⟩) (by show w.heap.size < _; omega)).trans X2.out.1
    have n2 := (hb3.cell (p := ⟨w.heap.size + 1, 2, none⟩) (by show w.heap.size + 1 < _; omega)).trans X2.out.2
    have hb4 := hb.trans (hb3.mono hb.size)
    clear hz
    cases zp
    · have HF := Lib.hid (HR2.out (HP.out.2 (by trivial)))
      go_wp2_with fail
      go_ret
      exact ⟨ret_bool HF.out.symm, hb4⟩
    · have TS1 := Lib.hid (TS w3 hb4).out
      go_wp2_with fail
      (with_reducible refine Calls.mono TS1.out ?_)
      rintro ee w5 ⟨rfl, hb5⟩
      have hb6 := hb4.trans (hb5.mono hb4.size)
      clear hb5 m2 n2
      have HF := Lib.hid (show z = zb from by
        cases zb
        · exact HR3.out (HQ.out.2 (by trivial))
        · exact HR.out H1.out (HP.out.1 (by trivial)) (HQ.out.1 (by trivial)))
      go_wp2_with fail
      go_ret
      exact ⟨ret_bool HF.out.symm, hb6⟩
  · have e1 : (nm.toList == nm'.toList) = false := str_eq_false h1
    have HF := Lib.hid (HR1.out h1)
    clear h1
    go_enter Try.func14, Try.ntmps14
    go_wp2_with fail
    go_ret
    exact ⟨ret_bool HF.out.symm, hb⟩
open Classical in
set_option maxHeartbeats 4000000 in
theorem equalFns_any (ks ls : List Fu) (A B : Option Addr) (c d : Nat) (w : World) (hA : FuS w (Between w 0 w.heap.size) ks A) (hB : FuS w (Between w 0 w.heap.size) ls B) (hk : bulkFL ks ≤ 1990000) (hl : bulkFL ls ≤ 1990000) :
    Calls Try.prog 13 #[.slice A ks.length c, .slice B ls.length d, .func (.func 14) #[] #[]] w (BoolB (decide (ks = ls)) w) := by
  have hn : ks.length ≤ 2000000 := by have := length_le_bulkFL ks; omega
  have hn' : ls.length ≤ 2000000 := by have := length_le_bulkFL ls; omega
  by_cases h4 : ks.length = ls.length
  · have p4 : ((ks.length : Int) != (ls.length : Int)) = false := by rw [h4]; simp
    have HL := Lib.hid h4
    have HA := Lib.hid hA
    have HB := Lib.hid hB
    have HKS := Lib.hid hk
    have HLS := Lib.hid hl
    clear h4 hA hB hk hl
    go_enter Try.func13, Try.ntmps13
    go_wp2_with fail
    go_loopw [17] (fun i wr => ∃ (k : Nat), k ≤ ks.length ∧ i = .int .i64 k ∧ (∀ j, (h : j < ks.length) → (h' : j < ls.length) → j < k → ks[j] = ls[j]) ∧ Below w.heap.size w wr) (fun i _ => ks.length - (intOf i).toNat)
    case atStart => exact ⟨0, Nat.zero_le _, rfl, fun j _ _ hj => absurd hj (by omega), Below.refl _ _⟩
    case round =>
      obtain ⟨k, hk, rfl, hall, hb⟩ := hrel
      have hbs := hb.size
      by_cases hltk : k < ks.length
      · have hlt' : k < ls.length := by have := HL.out; omega
        have hltk' : (k : Int) < ls.length := by omega
        obtain ⟨b, o, rfl, hSb, c0, ⟨A1, p1, c1, r1⟩, A2, p2, c2, r2⟩ := HA.out.at_ hltk
        obtain ⟨b', o', rfl, hSb', d0, ⟨B1, q1, d1, s1⟩, B2, q2, d2, s2⟩ := HB.out.at_ hlt'
        have hm1 : bulkF ks[k] ≤ 1990000 := by have := bulkFL_mem (List.getElem_mem hltk); have := HKS.out; omega
        have hm2 : bulkF ls[k] ≤ 1990000 := by have := bulkFL_mem (List.getElem_mem hlt'); have := HLS.out; omega
        have CK := fun W (h : Below w.heap.size w W) => sameFns_any ks[k] ls[k] A1 A2 B1 B2 p1 p2 q1 q2 W (r1.later h (Nat.le_refl _) h.size) (r2.later h (Nat.le_refl _) h.size) (s1.later h (Nat.le_refl _) h.size) (s2.later h (Nat.le_refl _) h.size) hm1 hm2
        have HAL := Lib.hid hall; clear hall hm1 hm2 r1 r2 s1 s2
        have hBr := hSb.2.1
        have hBr' := hSb'.2.1
        generalize hs0 : ks[k] = x at *
        generalize hs1 : ls[k] = x' at *
        have HS := Lib.hid hs0; clear hs0
        have HS' := Lib.hid hs1; clear hs1
        have HN : Hid (sameFB x x' = false → ks ≠ ls) := Lib.hid fun hd e => by
          have h1 := HS.out
          have h2 := HS'.out
          simp only [e] at h1
          rw [← h1, ← h2, (sameFB_iff _ _).2 rfl] at hd
          cases hd
        have HD : Hid (sameFB x x' = true → x = x') := Lib.hid (sameFB_iff _ _).1
        generalize sameFB x x' = z at *
        replace c0 := (hb.cell (p := ⟨b, o + k * 3, none⟩) hBr).trans c0
        replace c1 := (hb.cell (p := ⟨b, o + k * 3 + 1, none⟩) hBr).trans c1
        replace c2 := (hb.cell (p := ⟨b, o + k * 3 + 2, none⟩) hBr).trans c2
        have hBw : b' < wr.heap.size := Nat.lt_of_lt_of_le hBr' hbs
        replace d0 := (hb.cell (p := ⟨b', o' + k * 3, none⟩) hBr').trans d0
        replace d1 := (hb.cell (p := ⟨b', o' + k * 3 + 1, none⟩) hBr').trans d1
        replace d2 := (hb.cell (p := ⟨b', o' + k * 3 + 2, none⟩) hBr').trans d2
        have hal1 := (Below.refl wr.heap.size wr).alloc (Nat.le_refl _) (.cells #[.string x.name, .slice A1 x.params.length p1, .slice A2 x.body.length p2] 36)
        replace d0 := (hal1.cell (p := ⟨b', o' + k * 3, none⟩) hBw).trans d0
        replace d1 := (hal1.cell (p := ⟨b', o' + k * 3 + 1, none⟩) hBw).trans d1
        replace d2 := (hal1.cell (p := ⟨b', o' + k * 3 + 2, none⟩) hBw).trans d2
        have hal := two_boxes wr (.cells #[.string x.name, .slice A1 x.params.length p1, .slice A2 x.body.length p2] 36) (.cells #[.string x'.name, .slice B1 x'.params.length q1, .slice B2 x'.body.length q2] 36)
        have z1 : (wr.alloc (.cells #[.string x.name, .slice A1 x.params.length p1, .slice A2 x.body.length p2] 36)).heap.size = wr.heap.size + 1 := World.size_alloc _ _
        have sx := fun j => (((Below.refl _ (wr.alloc (.cells #[.string x.name, .slice A1 x.params.length p1, .slice A2 x.body.length p2] 36))).alloc (Nat.le_refl _) (.cells #[.string x'.name, .slice B1 x'.params.length q1, .slice B2 x'.body.length q2] 36)).cell (p := ⟨wr.heap.size, j, none⟩) (by show wr.heap.size < _; rw [z1]; omega)).trans (alloc_cell wr _ _ (0, 0) j)
        have sy := fun j => alloc_cell (wr.alloc (.cells #[.string x.name, .slice A1 x.params.length p1, .slice A2 x.body.length p2] 36)) #[.string x'.name, .slice B1 x'.params.length q1, .slice B2 x'.body.length q2] 36 (0, 0) j
        simp only [z1] at sy
        have u0 : _ = some (Value.string x.name) := sx 0
        have u1 : _ = some (Value.slice A1 x.params.length p1) := sx 1
        have u2 : _ = some (Value.slice A2 x.body.length p2) := sx 2
        have v0 : _ = some (Value.string x'.name) := sy 0
        have v1 : _ = some (Value.slice B1 x'.params.length q1) := sy 1
        have v2 : _ = some (Value.slice B2 x'.body.length q2) := sy 2
        clear sx sy z1
        have hbal := hb.trans (hal.mono hbs)
        have CK1 := Lib.hid (CK _ hbal)
        clear CK
        go_wp2_with fail
        (with_reducible refine Calls.mono CK1.out ?_)
        rintro ee w3 ⟨rfl, hb3⟩
        have hb4 := hbal.trans (hb3.mono hbal.size)
        clear hb3 hal1 hal hbal c0 c1 c2 d0 d1 d2 u0 u1 u2 v0 v1 v2 CK1
        cases z
        · have HF := Lib.hid (HN.out (by trivial))
          go_wp2_with fail
          go_ret
          exact ⟨ret_bool (by rw [eq_comm, decide_eq_false_iff_not]; exact HF.out), hb4⟩
        · go_wp2_with fail
          go_roundw
          case rel => exact ⟨k + 1, by omega, by go_num, fun j h1 h2 hjk => by
            by_cases e : j = k
            · subst e; exact (HS.out.trans (HD.out (by trivial))).trans HS'.out.symm
            · exact HAL.out j h1 h2 (by omega), hb4⟩
          case measure => simp only [intOf]; omega
      · obtain rfl : k = ks.length := by omega
        have HAL := Lib.hid hall
        clear hall
        go_wp2_with fail
        go_ret
        refine ⟨ret_bool ?_, hb⟩
        rw [eq_comm, decide_eq_true_eq]
        exact List.ext_getElem HL.out (fun j h1 h2 => HAL.out j h1 h2 h1)
  · have p4 : ((ks.length : Int) == (ls.length : Int)) = false := beq_no (by omega)
    have p5 : ((ks.length : Int) != (ls.length : Int)) = true := by rw [bne, p4]; rfl
    have HC := Lib.hid h4; clear h4
    go_enter Try.func13, Try.ntmps13
    go_wp2_with fail
    go_ret
    exact ⟨ret_bool (by rw [eq_comm, decide_eq_false_iff_not]; intro h; exact HC.out (by rw [h])), Below.refl _ _⟩
open Classical in
/-- Are two programs one? -/
noncomputable def samePB (p q : List Fu) : Bool := decide (p = q)
open Classical in
set_option maxHeartbeats 1000000 in
theorem implSamePrograms_any (p q : List Fu) (v u : Value) (w : World) (hp : PrV w (Between w 0 w.heap.size) p v) (hq : PrV w (Between w 0 w.heap.size) q u) (hk : bulkFL p ≤ 1048576) (hl : bulkFL q ≤ 1048576) :
    Calls Try.prog 7 #[v, u] w (BoolB (samePB p q) w) := by
  obtain ⟨A, c, rfl, hA⟩ := hp
  obtain ⟨B, d, rfl, hB⟩ := hq
  have hb := two_boxes w (.cells #[.slice A p.length c] 29) (.cells #[.slice B q.length d] 29)
  have EQ := equalFns_any p q A B c d _ (hA.later hb (Nat.le_refl _) hb.size) (hB.later hb (Nat.le_refl _) hb.size) (by omega) (by omega)
  unfold samePB
  generalize decide (p = q) = z at *
  replace EQ := Lib.hid EQ
  clear hA hB
  go_enter Try.func7, Try.ntmps7
  go_wp2_with fail
  (with_reducible refine Calls.mono EQ.out ?_)
  rintro ee w3 ⟨rfl, hb3⟩
  have hb4 := hb.trans (hb3.mono hb.size)
  go_wp2_with fail
  go_ret
  exact ⟨rfl, hb4⟩
end Go.Proofs.Ytljdbjfbcjigaaa
