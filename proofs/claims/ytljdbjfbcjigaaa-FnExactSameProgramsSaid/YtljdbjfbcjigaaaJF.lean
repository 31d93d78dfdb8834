/-
  The model's comparison of programs.
-/
import Derived.Test.YtljdbjfbcjigaaaJE
namespace Go.Proofs.Ytljdbjfbcjigaaa
open Go.RowKit
set_option maxRecDepth 100000

open Classical in
set_option maxHeartbeats 2000000 in
theorem l3Texts_any (ks ls : List ByteArray) (A B : Option Addr) (c d : Nat) (w : World) (hA : StrS w (Lt w.heap.size) ks A) (hB : StrS w (Lt w.heap.size) ls B) (hn : ks.length ≤ 2000000) (_hn' : ls.length ≤ 2000000) :
    Calls Try.prog 10 #[.slice A ks.length c, .slice B ls.length d] w (BoolB (decide (ks = ls)) w) := by
  by_cases h4 : ks.length = ls.length
  · have p4 : ((ks.length : Int) != (ls.length : Int)) = false := by rw [h4]; simp
    have HL := Lib.hid h4
    have HA := Lib.hid hA
    have HB := Lib.hid hB
    clear h4 hA hB
    go_enter Try.func10, Try.ntmps10
    go_wp2_with fail
    go_loopw [5] (fun i wr => ∃ (k : Nat), k ≤ ks.length ∧ i = .int .i64 k ∧ (∀ j, (h : j < ks.length) → (h' : j < ls.length) → j < k → ks[j] = ls[j]) ∧ Below w.heap.size w wr) (fun i _ => ks.length - (intOf i).toNat)
    case atStart => exact ⟨0, Nat.zero_le _, rfl, fun j _ _ hj => absurd hj (by omega), Below.refl _ _⟩
    case round =>
      obtain ⟨k, hk, rfl, hall, hb⟩ := hrel
      by_cases hltk : k < ks.length
      · have hlt' : k < ls.length := by have := HL.out; omega
        have hltk' : (k : Int) < ls.length := by omega
        obtain ⟨b, o, rfl, _, c0⟩ := (HA.out.on hb hb.size).at_ hltk
        obtain ⟨b', o', rfl, _, d0⟩ := (HB.out.on hb hb.size).at_ hlt'
        have HAL := Lib.hid hall; clear hall
        generalize hs0 : ks[k] = x at *
        generalize hs1 : ls[k] = x' at *
        have HS := Lib.hid hs0; clear hs0
        have HS' := Lib.hid hs1; clear hs1
        have hdr := below_drewN hb 0
        by_cases hxx : x = x'
        · have p1 : (x.toList == x'.toList) = true := by rw [hxx]; simp
          have p2 : (x.toList != x'.toList) = false := by rw [bne, p1]; rfl
          have HX := Lib.hid hxx
          clear hxx hdr
          go_wp2_with fail
          go_quiet (fail)
          have hdn := fun q => below_drewN hb q
          go_wp2_with fail
          go_roundw
          case rel => exact ⟨k + 1, by omega, by go_num, fun j h1 h2 hjk => by
            by_cases e : j = k
            · subst e; exact (HS.out.trans HX.out).trans HS'.out.symm
            · exact HAL.out j h1 h2 (by omega), hdn _⟩
          case measure => simp only [intOf]; omega
        · have p1 : (x.toList == x'.toList) = false := str_eq_false hxx
          have p2 : (x.toList != x'.toList) = true := by rw [bne, p1]; rfl
          have HX := Lib.hid (show ks ≠ ls from fun e => hxx (by have h1 := HS.out; have h2 := HS'.out; simp only [e] at h1; rw [← h1, ← h2]))
          clear hxx hdr
          go_wp2_with fail
          go_quiet (fail)
          have hdn := fun q => below_drewN hb q
          go_wp2_with fail
          go_ret
          exact ⟨ret_bool (by rw [eq_comm, decide_eq_false_iff_not]; exact HX.out), hdn _⟩
      · obtain rfl : k = ks.length := by omega
        have HAL := Lib.hid hall
        clear hall
        go_wp2_with fail
        go_ret
        refine ⟨ret_bool ?_, hb⟩
        rw [eq_comm, decide_eq_true_eq]
        exact List.ext_getElem HL.out (fun j h1 h2 => HAL.out j h1 h2 h1)
  · have p4 : ((ks.length : Int) == (ls.length : Int)) = false := beq_no (by omega)
    have p5 : ((ks.length : Int) != (ls.length : Int)) = true := by rw [bne, p4]; rfl
    have HC := Lib.hid h4; clear h4
    go_enter Try.func10, Try.ntmps10
    go_wp2_with fail
    go_ret
    exact ⟨ret_bool (by rw [eq_comm, decide_eq_false_iff_not]; intro h; exact HC.out (by rw [h])), Below.refl _ _⟩
/-- A statement's five cells. -/
def B5 (w : World) (b o : Nat) (u0 u1 u2 u3 u4 : Value) : Prop :=
  w.cell? ⟨b, o, none⟩ = some u0 ∧ w.cell? ⟨b, o + 1, none⟩ = some u1 ∧ w.cell? ⟨b, o + 2, none⟩ = some u2 ∧ w.cell? ⟨b, o + 3, none⟩ = some u3 ∧ w.cell? ⟨b, o + 4, none⟩ = some u4
theorem B5.below {w w' : World} {T b o : Nat} {u0 u1 u2 u3 u4 : Value} (h : B5 w b o u0 u1 u2 u3 u4) (hb : Below T w w') (hk : b < T) : B5 w' b o u0 u1 u2 u3 u4 :=
  ⟨(hb.cell (p := ⟨b, o, none⟩) hk).trans h.1, (hb.cell (p := ⟨b, o + 1, none⟩) hk).trans h.2.1, (hb.cell (p := ⟨b, o + 2, none⟩) hk).trans h.2.2.1, (hb.cell (p := ⟨b, o + 3, none⟩) hk).trans h.2.2.2.1, (hb.cell (p := ⟨b, o + 4, none⟩) hk).trans h.2.2.2.2⟩
/-- An expression's four cells, or a function's three and one more. -/
def B4 (w : World) (b o : Nat) (u0 u1 u2 u3 : Value) : Prop :=
  w.cell? ⟨b, o, none⟩ = some u0 ∧ w.cell? ⟨b, o + 1, none⟩ = some u1 ∧ w.cell? ⟨b, o + 2, none⟩ = some u2 ∧ w.cell? ⟨b, o + 3, none⟩ = some u3
theorem B4.below {w w' : World} {T b o : Nat} {u0 u1 u2 u3 : Value} (h : B4 w b o u0 u1 u2 u3) (hb : Below T w w') (hk : b < T) : B4 w' b o u0 u1 u2 u3 :=
  ⟨(hb.cell (p := ⟨b, o, none⟩) hk).trans h.1, (hb.cell (p := ⟨b, o + 1, none⟩) hk).trans h.2.1, (hb.cell (p := ⟨b, o + 2, none⟩) hk).trans h.2.2.1, (hb.cell (p := ⟨b, o + 3, none⟩) hk).trans h.2.2.2⟩
/-- Are two lists of statements one? -/
noncomputable def sameLB (ks ls : List St) : Bool := open Classical in decide (ks = ls)
open Classical in
theorem sameLB_no {ks ls : List St} (h : ks ≠ ls) : sameLB ks ls = false := by unfold sameLB; rw [decide_eq_false_iff_not]; exact h
open Classical in
theorem sameLB_yes {ks ls : List St} (h : ks = ls) : sameLB ks ls = true := by unfold sameLB; rw [decide_eq_true_eq]; exact h
open Classical in
theorem sameLB_iff (ks ls : List St) : sameLB ks ls = true ↔ ks = ls := by unfold sameLB; rw [decide_eq_true_eq]
theorem sameLB_ne {ks ls : List St} (h : sameLB ks ls = false) : ks ≠ ls := fun e => by rw [sameLB_yes e] at h; cases h
set_option maxHeartbeats 8000000 in
theorem l3SameList_of (ks : List St) (hbk : bulkTL ks ≤ 1990000)
    (H : ∀ (kk : List St), sizeTL kk < sizeTL ks → ∀ (ll : List St) (A B : Option Addr) (c d : Nat) (w : World), StS w (Lt w.heap.size) kk A → StS w (Lt w.heap.size) ll B → bulkTL kk ≤ 1990000 → bulkTL ll ≤ 1990000 → Calls Try.prog 11 #[.slice A kk.length c, .slice B ll.length d] w (BoolB (sameLB kk ll) w))
    (ls : List St) (A B : Option Addr) (c d : Nat) (w : World) (hA : StS w (Lt w.heap.size) ks A) (hB : StS w (Lt w.heap.size) ls B) (hbl : bulkTL ls ≤ 1990000) :
    Calls Try.prog 11 #[.slice A ks.length c, .slice B ls.length d] w (BoolB (sameLB ks ls) w) := by
  have hn : ks.length ≤ 2000000 := by have := length_le_bulkTL ks; omega
  have hn' : ls.length ≤ 2000000 := by have := length_le_bulkTL ls; omega
  have HZ := Lib.hid (And.intro (@sameLB_no ks ls) (@sameLB_yes ks ls))
  generalize sameLB ks ls = z at *
  by_cases h4 : ks.length = ls.length
  · have p4 : ((ks.length : Int) != (ls.length : Int)) = false := by rw [h4]; simp
    have HL := Lib.hid h4
    have HA := Lib.hid hA
    have HB := Lib.hid hB
    have HKS := Lib.hid hbk
    have HLS := Lib.hid hbl
    have HH := Lib.hid H
    clear h4 hA hB hbk hbl H
    go_enter Try.func11, Try.ntmps11
    go_wp2_with fail
    go_loopw [5] (fun i wr => ∃ (k : Nat), k ≤ ks.length ∧ i = .int .i64 k ∧ (∀ j, (h : j < ks.length) → (h' : j < ls.length) → j < k → ks[j] = ls[j]) ∧ Below w.heap.size w wr) (fun i _ => ks.length - (intOf i).toNat)
    case atStart => exact ⟨0, Nat.zero_le _, rfl, fun j _ _ hj => absurd hj (by omega), Below.refl _ _⟩
    case round =>
      obtain ⟨k, hk, rfl, hall, hb⟩ := hrel
      by_cases hltk : k < ks.length
      · have hlt' : k < ls.length := by have := HL.out; omega
        have hltk' : (k : Int) < ls.length := by omega
        have HALL := Lib.hid hall
        obtain ⟨b, o, rfl, hBw, ⟨c0, c1⟩, ⟨A1, p1, c2, r1⟩, ⟨A2, p2, c3, r2⟩, A3, p3, c4, r3⟩ := HA.out.at_ hltk
        obtain ⟨b', o', rfl, hBw', ⟨d0, d1⟩, ⟨E1, q1, d2, s1⟩, ⟨E2, q2, d3, s2⟩, E3, q3, d4, s3⟩ := HB.out.at_ hlt'
        have C := Lib.hid (show B5 w b (o + k * 5) _ _ _ _ _ from ⟨c0, c1, c2, c3, c4⟩)
        have D := Lib.hid (show B5 w b' (o' + k * 5) _ _ _ _ _ from ⟨d0, d1, d2, d3, d4⟩)
        have HBw : Hid (b < w.heap.size) := Lib.hid hBw
        have HBw' : Hid (b' < w.heap.size) := Lib.hid hBw'
        have hm1 := bulkTL_mem (List.getElem_mem hltk)
        have hm2 := bulkTL_mem (List.getElem_mem hlt')
        have hg := sizeTL_get hltk
        have hkk := sizeT_kids ks[k]
        have hkb := bulkT_kids ks[k]
        have hlb := bulkT_kids ls[k]
        have hks := HKS.out
        have hls := HLS.out
        have SB := fun W (h : Below w.heap.size w W) => Lib.hid (HH.out ks[k].body (by omega) ls[k].body A2 E2 p2 q2 W (r2.on h h.size) (s2.on h h.size) (by omega) (by omega))
        have SE := fun W (h : Below w.heap.size w W) => Lib.hid (HH.out ks[k].els (by omega) ls[k].els A3 E3 p3 q3 W (r3.on h h.size) (s3.on h h.size) (by omega) (by omega))
        have hxa : bulkL ks[k].args ≤ 1990000 := by omega
        have hxb : bulkL ls[k].args ≤ 1990000 := by omega
        have R1 := Lib.hid r1.lt_rd
        have S1 := Lib.hid s1.lt_rd
        have hal : ks[k].args.length ≤ 1990000 := by have := length_le_sizeL ks[k].args; have := sizeL_bulk ks[k].args; omega
        have hal' : ls[k].args.length ≤ 1990000 := by have := length_le_sizeL ls[k].args; have := sizeL_bulk ls[k].args; omega
        have HXA := Lib.hid hxa
        have HXB := Lib.hid hxb
        have HNO : Hid (ks[k] ≠ ls[k] → z = false) := Lib.hid fun h => HZ.out.1 fun e => h (by simp only [e])
        have HNX : Hid (ks[k] = ls[k] → ∀ j, (h : j < ks.length) → (h' : j < ls.length) → j < k + 1 → ks[j] = ls[j]) := Lib.hid fun e j h h' hj => by
          by_cases ej : j = k
          · subst ej; exact e
          · exact HALL.out j h h' (by omega)
        clear hall c0 c1 c2 c3 c4 d0 d1 d2 d3 d4 r1 r2 r3 s1 s2 s3 hm1 hm2 hg hkk hkb hlb hks hls hxa hxb hBw hBw'
        generalize ks[k] = x at *
        generalize ls[k] = y at *
        obtain ⟨op, s, a, bd, el⟩ := x
        obtain ⟨op', s', a', bd', el'⟩ := y
        dsimp only [St.op, St.name, St.args, St.body, St.els] at *
        by_cases h1 : op = op'
        · subst h1
          have i1 : (op != op) = false := by simp
          by_cases h2 : s = s'
          · subst h2
            have i2 : (s.toList == s.toList) = true := by simp
            have i3 : (s.toList != s.toList) = false := by rw [bne, i2]; rfl
            by_cases h3 : a.length = a'.length
            · have i4 : ((a.length : Int) != (a'.length : Int)) = false := by rw [h3]; simp
              have H3 := Lib.hid h3
              clear h3
              obtain ⟨c0, c1, c2, c3, c4⟩ := C.out.below hb HBw.out
              obtain ⟨d0, d1, d2, d3, d4⟩ := D.out.below hb HBw'.out
              go_wp2_with fail
              go_quiet (fail)
              have hdn := fun q => below_drewN hb q
              clear c0 c1 d0 d1 c3 c4 d2 d3 d4 i1 i2 i3 i4
              go_wp2_with fail
              go_loopw [6] (fun j wr => ∃ (m : Nat), m ≤ a.length ∧ j = .int .i64 m ∧ (∀ i, (h : i < a.length) → (h' : i < a'.length) → i < m → a[i] = a'[i]) ∧ Below w.heap.size w wr) (fun j _ => a.length - (intOf j).toNat)
              case atStart => exact ⟨0, Nat.zero_le _, rfl, fun _ _ _ h => absurd h (by omega), hdn _⟩
              case round =>
                clear hdn hb c2
                obtain ⟨m, hm, rfl, hall, hb⟩ := hrel
                obtain ⟨_, _, c2, c3, c4⟩ := C.out.below hb HBw.out
                obtain ⟨_, _, d2, d3, d4⟩ := D.out.below hb HBw'.out
                by_cases hlm : m < a.length
                · have hlm' : m < a'.length := by have := H3.out; omega
                  have hlm2 : (m : Int) < a'.length := by omega
                  have HAM := Lib.hid hall
                  obtain ⟨g, u, rfl, hG, ⟨e0, e1, e2⟩, X1, x1, e3, hr⟩ := R1.out.at_ hlm
                  obtain ⟨g', u', rfl, hG', ⟨f0, f1, f2⟩, Y1, y1, f3, hr'⟩ := S1.out.at_ hlm'
                  have hm1 : bulkE a[m] ≤ 2000000 := by have := bulkL_mem (List.getElem_mem hlm); have := HXA.out; omega
                  have hm2 : bulkE a'[m] ≤ 2000000 := by have := bulkL_mem (List.getElem_mem hlm'); have := HXB.out; omega
                  have CK := specSameExpr_any a[m] a'[m] X1 x1 Y1 y1 wr.drew (hr.on hb.drew hb.drew.size) (hr'.on hb.drew hb.drew.size) hm1 hm2
                  have hGr : g < wr.heap.size := Nat.lt_of_lt_of_le hG hb.size
                  have hGr' : g' < wr.heap.size := Nat.lt_of_lt_of_le hG' hb.size
                  have hBr : b < wr.heap.size := Nat.lt_of_lt_of_le HBw.out hb.size
                  have hBr' : b' < wr.heap.size := Nat.lt_of_lt_of_le HBw'.out hb.size
                  replace e0 := (hb.cell (p := ⟨g, u + m * 4, none⟩) hG).trans e0
                  replace e1 := (hb.cell (p := ⟨g, u + m * 4 + 1, none⟩) hG).trans e1
                  replace e2 := (hb.cell (p := ⟨g, u + m * 4 + 2, none⟩) hG).trans e2
                  replace e3 := (hb.cell (p := ⟨g, u + m * 4 + 3, none⟩) hG).trans e3
                  replace f0 := (hb.cell (p := ⟨g', u' + m * 4, none⟩) hG').trans f0
                  replace f1 := (hb.cell (p := ⟨g', u' + m * 4 + 1, none⟩) hG').trans f1
                  replace f2 := (hb.cell (p := ⟨g', u' + m * 4 + 2, none⟩) hG').trans f2
                  replace f3 := (hb.cell (p := ⟨g', u' + m * 4 + 3, none⟩) hG').trans f3
                  have HN : Hid (a[m] ≠ a'[m] → z = false) := Lib.hid fun h => HNO.out fun e => h (by injection e with _ _ e; simp only [e])
                  have HY : Hid (a[m] = a'[m] → ∀ i, (h : i < a.length) → (h' : i < a'.length) → i < m + 1 → a[i] = a'[i]) := Lib.hid fun e j h h' hj => by
                    by_cases ej : j = m
                    · subst ej; exact e
                    · exact HAM.out j h h' (by omega)
                  clear hall hm1 hm2 hr hr' c3 c4 d3 d4 SB SE
                  generalize a[m] = ea at *
                  generalize a'[m] = eb at *
                  obtain ⟨op1, n1, t1, kk⟩ := ea
                  obtain ⟨op2, n2, t2, kk'⟩ := eb
                  unfold exV at CK
                  dsimp only [E.op, E.n, E.name, E.kids] at e0 e1 e2 e3 f0 f1 f2 f3 CK
                  have HD : Hid (eqB (E.mk op1 n1 t1 kk) (E.mk op2 n2 t2 kk') = true → E.mk op1 n1 t1 kk = E.mk op2 n2 t2 kk') := Lib.hid (eqB_iff _ _).1
                  have HE : Hid (eqB (E.mk op1 n1 t1 kk) (E.mk op2 n2 t2 kk') = false → E.mk op1 n1 t1 kk ≠ E.mk op2 n2 t2 kk') := Lib.hid fun h e => by rw [e, eqB_yes] at h; cases h
                  generalize eqB (E.mk op1 n1 t1 kk) (E.mk op2 n2 t2 kk') = y at *
                  replace CK := Lib.hid CK
                  go_wp2_with fail
                  go_region_held3 (fun v => v.cell? ⟨b, o + k * 5 + 2, none⟩ = some (.slice (some ⟨g, u, none⟩) a.length p1) ∧ v.cell? ⟨b', o' + k * 5 + 2, none⟩ = some (.slice (some ⟨g', u', none⟩) a'.length q1) ∧ v.cell? ⟨g, u + m * 4, none⟩ = some (.int .i64 op1) ∧ v.cell? ⟨g, u + m * 4 + 1, none⟩ = some (.int .i64 n1) ∧ v.cell? ⟨g, u + m * 4 + 2, none⟩ = some (.string t1) ∧ v.cell? ⟨g, u + m * 4 + 3, none⟩ = some (.slice X1 kk.length x1) ∧ v.cell? ⟨g', u' + m * 4, none⟩ = some (.int .i64 op2) ∧ v.cell? ⟨g', u' + m * 4 + 1, none⟩ = some (.int .i64 n2) ∧ v.cell? ⟨g', u' + m * 4 + 2, none⟩ = some (.string t2) ∧ v.cell? ⟨g', u' + m * 4 + 3, none⟩ = some (.slice Y1 kk'.length y1)) (go_keep)
                    (first | (go_at_call 17; (with_reducible refine Calls.mono CK.out ?_); rintro ee w' ⟨rfl, hb1⟩; have t0 := (hb1.cell (p := ⟨b, o + k * 5 + 2, none⟩) hBr).trans c2; have t3 := (hb1.cell (p := ⟨b', o' + k * 5 + 2, none⟩) hBr').trans d2; have g0 := (hb1.cell (p := ⟨g, u + m * 4, none⟩) hGr).trans e0; have g1 := (hb1.cell (p := ⟨g, u + m * 4 + 1, none⟩) hGr).trans e1; have g2 := (hb1.cell (p := ⟨g, u + m * 4 + 2, none⟩) hGr).trans e2; have g3 := (hb1.cell (p := ⟨g, u + m * 4 + 3, none⟩) hGr).trans e3; have q0 := (hb1.cell (p := ⟨g', u' + m * 4, none⟩) hGr').trans f0; have q1 := (hb1.cell (p := ⟨g', u' + m * 4 + 1, none⟩) hGr').trans f1; have q2 := (hb1.cell (p := ⟨g', u' + m * 4 + 2, none⟩) hGr').trans f2; have q3 := (hb1.cell (p := ⟨g', u' + m * 4 + 3, none⟩) hGr').trans f3))
                  have hb2 := hb.drew.trans (hb1.mono hb.drew.size)
                  clear hb hb1 c2 d2 e0 e1 e2 e3 f0 f1 f2 f3
                  cases y
                  · have HF := Lib.hid (HN.out (HE.out (by trivial)))
                    go_wp2_with fail
                    go_ret
                    exact ⟨ret_bool HF.out.symm, hb2⟩
                  · go_wp2_with fail
                    go_roundw
                    case rel => exact ⟨m + 1, by omega, by go_num, HY.out (HD.out (by trivial)), hb2⟩
                    case measure => simp only [intOf]; omega
                · obtain rfl : m = a.length := by omega
                  have HAA : Hid (a = a') := Lib.hid (List.ext_getElem H3.out (fun j h1 h2 => hall j h1 h2 h1))
                  have SB1 := Lib.hid (SB _ hb.drew).out
                  have HP := Lib.hid (And.intro (@sameLB_ne bd bd') (sameLB_iff bd bd').1)
                  have HQ := Lib.hid (And.intro (@sameLB_ne el el') (sameLB_iff el el').1)
                  have hBr : b < wr.heap.size := Nat.lt_of_lt_of_le HBw.out hb.size
                  have hBr' : b' < wr.heap.size := Nat.lt_of_lt_of_le HBw'.out hb.size
                  have hbr := (Below.refl wr.heap.size wr).drew
                  clear hall hlm SB
                  generalize bd.length = n2 at *
                  generalize el.length = n3 at *
                  generalize bd'.length = n2' at *
                  generalize el'.length = n3' at *
                  generalize sameLB bd bd' = zb at *
                  generalize sameLB el el' = ze at *
                  cases zb
                  · have HF := Lib.hid (HNO.out fun e => HP.out.1 (by trivial) (by injection e))
                    go_wp2_with fail
                    refine wp_region_held_drew (S := (fun v => v.cell? ⟨b, o + k * 5 + 3, none⟩ = some (.slice A2 n2 p2) ∧ v.cell? ⟨b, o + k * 5 + 4, none⟩ = some (.slice A3 n3 p3) ∧ v.cell? ⟨b', o' + k * 5 + 3, none⟩ = some (.slice E2 n2' q2) ∧ v.cell? ⟨b', o' + k * 5 + 4, none⟩ = some (.slice E3 n3' q3))) (by kernel_rfl) ?_ (fun hHeld => ?_)
                    · try dsimp only
                      go_keep
                    refine wpAnyH_take (i := 0) (oi := { dst := some 85, op := Op.move (Operand.tmp 0), type := 34, pos := "l3_programs.go:133", after := #[], guard := none }) (v := ?_) rfl (by kernel_rfl) (by kernel_rfl) (by kernel_rfl) (fun _ _ _ h => h) (Or.inl ⟨by rfl, ?_⟩) (by assumption) ?_
                    rotate_left
                    · intro wq hSw
                      try dsimp only at hSw
                      go_simp
                      try with_reducible rfl
                    try simp only [Act.put, List.setIfInBounds_toArray, List.set_cons_zero, List.set_cons_succ]
                    refine wpAnyH_take (i := 1) (oi := { dst := some 86, op := Op.move (Operand.tmp 5), type := 3, pos := "l3_programs.go:133", after := #[], guard := none }) (v := ?_) rfl (by kernel_rfl) (by kernel_rfl) (by kernel_rfl) (fun _ _ _ h => h) (Or.inl ⟨by rfl, ?_⟩) (by assumption) ?_
                    rotate_left
                    · intro wq hSw
                      try dsimp only at hSw
                      go_simp
                      try with_reducible rfl
                    try simp only [Act.put, List.setIfInBounds_toArray, List.set_cons_zero, List.set_cons_succ]
                    refine wpAnyH_take (i := 2) (oi := { dst := some 87, op := Op.indexAddr 34 (Operand.tmp 85) (Operand.tmp 86), type := 0, pos := "l3_programs.go:133", after := #[{ on := 0, ground := Ground.data }, { on := 1, ground := Ground.data }], guard := none }) (v := ?_) rfl (by kernel_rfl) (by kernel_rfl) (by kernel_rfl) (fun _ _ _ h => h) (Or.inl ⟨by rfl, ?_⟩) (by assumption) ?_
                    rotate_left
                    · intro wq hSw
                      try dsimp only at hSw
                      go_simp
                      try with_reducible rfl
                    try simp only [Act.put, List.setIfInBounds_toArray, List.set_cons_zero, List.set_cons_succ]
                    refine wpAnyH_take (i := 3) (oi := { dst := some 88, op := Op.fieldAddr 49 (Operand.tmp 87) 3, type := 0, pos := "l3_programs.go:133", after := #[{ on := 2, ground := Ground.data }], guard := none }) (v := ?_) rfl (by kernel_rfl) (by kernel_rfl) (by kernel_rfl) (fun _ _ _ h => h) (Or.inl ⟨by rfl, ?_⟩) (by assumption) ?_
                    rotate_left
                    · intro wq hSw
                      try dsimp only at hSw
                      go_simp
                      try with_reducible rfl
                    try simp only [Act.put, List.setIfInBounds_toArray, List.set_cons_zero, List.set_cons_succ]
                    refine wpAnyH_take (i := 4) (oi := { dst := some 89, op := Op.load 34 (Operand.tmp 88), type := 34, pos := "l3_programs.go:133", after := #[{ on := 3, ground := Ground.data }], guard := none }) (v := ?_) rfl (by kernel_rfl) (by kernel_rfl) (by kernel_rfl) (fun _ _ _ h => h) (Or.inl ⟨by rfl, ?_⟩) (by assumption) ?_
                    rotate_left
                    · intro wq hSw
                      try dsimp only at hSw
                      go_simp
                      try with_reducible rfl
                    try simp only [Act.put, List.setIfInBounds_toArray, List.set_cons_zero, List.set_cons_succ]
                    refine wpAnyH_take (i := 5) (oi := { dst := some 90, op := Op.move (Operand.tmp 1), type := 34, pos := "l3_programs.go:133", after := #[], guard := none }) (v := ?_) rfl (by kernel_rfl) (by kernel_rfl) (by kernel_rfl) (fun _ _ _ h => h) (Or.inl ⟨by rfl, ?_⟩) (by assumption) ?_
                    rotate_left
                    · intro wq hSw
                      try dsimp only at hSw
                      go_simp
                      try with_reducible rfl
                    try simp only [Act.put, List.setIfInBounds_toArray, List.set_cons_zero, List.set_cons_succ]
                    refine wpAnyH_take (i := 6) (oi := { dst := some 91, op := Op.move (Operand.tmp 5), type := 3, pos := "l3_programs.go:133", after := #[], guard := none }) (v := ?_) rfl (by kernel_rfl) (by kernel_rfl) (by kernel_rfl) (fun _ _ _ h => h) (Or.inl ⟨by rfl, ?_⟩) (by assumption) ?_
                    rotate_left
                    · intro wq hSw
                      try dsimp only at hSw
                      go_simp
                      try with_reducible rfl
                    try simp only [Act.put, List.setIfInBounds_toArray, List.set_cons_zero, List.set_cons_succ]
                    refine wpAnyH_take (i := 7) (oi := { dst := some 92, op := Op.indexAddr 34 (Operand.tmp 90) (Operand.tmp 91), type := 0, pos := "l3_programs.go:133", after := #[{ on := 5, ground := Ground.data }, { on := 6, ground := Ground.data }], guard := none }) (v := ?_) rfl (by kernel_rfl) (by kernel_rfl) (by kernel_rfl) (fun _ _ _ h => h) (Or.inl ⟨by rfl, ?_⟩) (by assumption) ?_
                    rotate_left
                    · intro wq hSw
                      try dsimp only at hSw
                      go_simp
                      try with_reducible rfl
                    try simp only [Act.put, List.setIfInBounds_toArray, List.set_cons_zero, List.set_cons_succ]
                    refine wpAnyH_take (i := 8) (oi := { dst := some 93, op := Op.fieldAddr 49 (Operand.tmp 92) 3, type := 0, pos := "l3_programs.go:133", after := #[{ on := 7, ground := Ground.data }], guard := none }) (v := ?_) rfl (by kernel_rfl) (by kernel_rfl) (by kernel_rfl) (fun _ _ _ h => h) (Or.inl ⟨by rfl, ?_⟩) (by assumption) ?_
                    rotate_left
                    · intro wq hSw
                      try dsimp only at hSw
                      go_simp
                      try with_reducible rfl
                    try simp only [Act.put, List.setIfInBounds_toArray, List.set_cons_zero, List.set_cons_succ]
                    refine wpAnyH_take (i := 9) (oi := { dst := some 94, op := Op.load 34 (Operand.tmp 93), type := 34, pos := "l3_programs.go:133", after := #[{ on := 8, ground := Ground.data }], guard := none }) (v := ?_) rfl (by kernel_rfl) (by kernel_rfl) (by kernel_rfl) (fun _ _ _ h => h) (Or.inl ⟨by rfl, ?_⟩) (by assumption) ?_
                    rotate_left
                    · intro wq hSw
                      try dsimp only at hSw
                      go_simp
                      try with_reducible rfl
                    try simp only [Act.put, List.setIfInBounds_toArray, List.set_cons_zero, List.set_cons_succ]
                    refine wpAnyH_ready (rs := [10]) (by kernel_rfl) (by simp) ?_
                    refine AllReadyH.cons (o := { dst := some 95, op := Op.call { callee := Callee.value (Operand.func 11), args := #[Operand.tmp 89, Operand.tmp 94], argTypes := #[34, 34] }, type := 4, pos := "l3_programs.go:133", after := #[{ on := 4, ground := Ground.data }, { on := 9, ground := Ground.data }], guard := none }) rfl (fun K hK => ?_) ?_
                    rotate_left
                    · exact AllReadyH.nil
                    go_simp
                    (with_reducible refine Calls.mono SB1.out ?_)
                    rintro ee w2 ⟨rfl, hb2⟩
                    have hb3 := hb.drew.trans (hb2.mono hb.drew.size)
                    have g3 := (hb2.cell (p := ⟨b, o + k * 5 + 3, none⟩) hBr).trans c3
                    have g4 := (hb2.cell (p := ⟨b, o + k * 5 + 4, none⟩) hBr).trans c4
                    have h3 := (hb2.cell (p := ⟨b', o' + k * 5 + 3, none⟩) hBr').trans d3
                    have h4 := (hb2.cell (p := ⟨b', o' + k * 5 + 4, none⟩) hBr').trans d4
                    go_wp2_with fail
                    refine hK.out _ _ ?_ (fun hHeld2 => ?_)
                    · try dsimp only
                      go_keep
                    clear hK K
                    try simp only [Act.put, List.setIfInBounds_toArray, List.set_cons_zero, List.set_cons_succ]
                    refine wpAnyH_take (i := 11) (oi := { dst := some 96, op := Op.unOp UnOp.not 4 (Operand.tmp 95), type := 4, pos := "l3_programs.go:133", after := #[{ on := 10, ground := Ground.data }], guard := none }) (v := ?_) rfl (by kernel_rfl) (by kernel_rfl) (by kernel_rfl) (fun _ _ _ h => h) (Or.inl ⟨by rfl, ?_⟩) (by assumption) ?_
                    rotate_left
                    · intro wq hSw
                      try dsimp only at hSw
                      go_simp
                      try with_reducible rfl
                    try simp only [Act.put, List.setIfInBounds_toArray, List.set_cons_zero, List.set_cons_succ]
                    refine wpAnyH_take (i := 12) (oi := { dst := some 97, op := Op.move (Operand.tmp 96), type := 4, pos := "l3_programs.go:133", after := #[{ on := 11, ground := Ground.data }, { on := 10, ground := Ground.chain }], guard := none }) (v := ?_) rfl (by kernel_rfl) (by kernel_rfl) (by kernel_rfl) (fun _ _ _ h => h) (Or.inl ⟨by rfl, ?_⟩) (by assumption) ?_
                    rotate_left
                    · intro wq hSw
                      try dsimp only at hSw
                      go_simp
                      try with_reducible rfl
                    try simp only [Act.put, List.setIfInBounds_toArray, List.set_cons_zero, List.set_cons_succ]
                    refine wpAnyH_take (i := 13) (oi := { dst := some 98, op := Op.move (Operand.tmp 0), type := 34, pos := "l3_programs.go:133", after := #[{ on := 12, ground := Ground.guard }], guard := some (12, false) }) (v := undef) rfl (by kernel_rfl) (by kernel_rfl) (by kernel_rfl) (fun _ _ _ h => h) (Or.inr ⟨by rfl, rfl⟩) (by assumption) ?_
                    try simp only [Act.put, List.setIfInBounds_toArray, List.set_cons_zero, List.set_cons_succ]
                    refine wpAnyH_take (i := 14) (oi := { dst := some 99, op := Op.move (Operand.tmp 5), type := 3, pos := "l3_programs.go:133", after := #[{ on := 12, ground := Ground.guard }], guard := some (12, false) }) (v := undef) rfl (by kernel_rfl) (by kernel_rfl) (by kernel_rfl) (fun _ _ _ h => h) (Or.inr ⟨by rfl, rfl⟩) (by assumption) ?_
                    try simp only [Act.put, List.setIfInBounds_toArray, List.set_cons_zero, List.set_cons_succ]
                    refine wpAnyH_take (i := 15) (oi := { dst := some 100, op := Op.indexAddr 34 (Operand.tmp 98) (Operand.tmp 99), type := 0, pos := "l3_programs.go:133", after := #[{ on := 13, ground := Ground.data }, { on := 14, ground := Ground.data }, { on := 12, ground := Ground.guard }], guard := some (12, false) }) (v := undef) rfl (by kernel_rfl) (by kernel_rfl) (by kernel_rfl) (fun _ _ _ h => h) (Or.inr ⟨by rfl, rfl⟩) (by assumption) ?_
                    try simp only [Act.put, List.setIfInBounds_toArray, List.set_cons_zero, List.set_cons_succ]
                    refine wpAnyH_take (i := 16) (oi := { dst := some 101, op := Op.fieldAddr 49 (Operand.tmp 100) 4, type := 0, pos := "l3_programs.go:133", after := #[{ on := 15, ground := Ground.data }, { on := 12, ground := Ground.guard }], guard := some (12, false) }) (v := undef) rfl (by kernel_rfl) (by kernel_rfl) (by kernel_rfl) (fun _ _ _ h => h) (Or.inr ⟨by rfl, rfl⟩) (by assumption) ?_
                    try simp only [Act.put, List.setIfInBounds_toArray, List.set_cons_zero, List.set_cons_succ]
                    refine wpAnyH_take (i := 17) (oi := { dst := some 102, op := Op.load 34 (Operand.tmp 101), type := 34, pos := "l3_programs.go:133", after := #[{ on := 16, ground := Ground.data }, { on := 12, ground := Ground.guard }], guard := some (12, false) }) (v := undef) rfl (by kernel_rfl) (by kernel_rfl) (by kernel_rfl) (fun _ _ _ h => h) (Or.inr ⟨by rfl, rfl⟩) (by assumption) ?_
                    try simp only [Act.put, List.setIfInBounds_toArray, List.set_cons_zero, List.set_cons_succ]
                    refine wpAnyH_take (i := 18) (oi := { dst := some 103, op := Op.move (Operand.tmp 1), type := 34, pos := "l3_programs.go:133", after := #[{ on := 12, ground := Ground.guard }], guard := some (12, false) }) (v := undef) rfl (by kernel_rfl) (by kernel_rfl) (by kernel_rfl) (fun _ _ _ h => h) (Or.inr ⟨by rfl, rfl⟩) (by assumption) ?_
                    try simp only [Act.put, List.setIfInBounds_toArray, List.set_cons_zero, List.set_cons_succ]
                    refine wpAnyH_take (i := 19) (oi := { dst := some 104, op := Op.move (Operand.tmp 5), type := 3, pos := "l3_programs.go:133", after := #[{ on := 12, ground := Ground.guard }], guard := some (12, false) }) (v := undef) rfl (by kernel_rfl) (by kernel_rfl) (by kernel_rfl) (fun _ _ _ h => h) (Or.inr ⟨by rfl, rfl⟩) (by assumption) ?_
                    try simp only [Act.put, List.setIfInBounds_toArray, List.set_cons_zero, List.set_cons_succ]
                    refine wpAnyH_take (i := 20) (oi := { dst := some 105, op := Op.indexAddr 34 (Operand.tmp 103) (Operand.tmp 104), type := 0, pos := "l3_programs.go:133", after := #[{ on := 18, ground := Ground.data }, { on := 19, ground := Ground.data }, { on := 12, ground := Ground.guard }], guard := some (12, false) }) (v := undef) rfl (by kernel_rfl) (by kernel_rfl) (by kernel_rfl) (fun _ _ _ h => h) (Or.inr ⟨by rfl, rfl⟩) (by assumption) ?_
                    try simp only [Act.put, List.setIfInBounds_toArray, List.set_cons_zero, List.set_cons_succ]
                    refine wpAnyH_take (i := 21) (oi := { dst := some 106, op := Op.fieldAddr 49 (Operand.tmp 105) 4, type := 0, pos := "l3_programs.go:133", after := #[{ on := 20, ground := Ground.data }, { on := 12, ground := Ground.guard }], guard := some (12, false) }) (v := undef) rfl (by kernel_rfl) (by kernel_rfl) (by kernel_rfl) (fun _ _ _ h => h) (Or.inr ⟨by rfl, rfl⟩) (by assumption) ?_
                    try simp only [Act.put, List.setIfInBounds_toArray, List.set_cons_zero, List.set_cons_succ]
                    refine wpAnyH_take (i := 22) (oi := { dst := some 107, op := Op.load 34 (Operand.tmp 106), type := 34, pos := "l3_programs.go:133", after := #[{ on := 21, ground := Ground.data }, { on := 12, ground := Ground.guard }], guard := some (12, false) }) (v := undef) rfl (by kernel_rfl) (by kernel_rfl) (by kernel_rfl) (fun _ _ _ h => h) (Or.inr ⟨by rfl, rfl⟩) (by assumption) ?_
                    try simp only [Act.put, List.setIfInBounds_toArray, List.set_cons_zero, List.set_cons_succ]
                    refine wpAnyH_take (i := 23) (oi := { dst := some 108, op := Op.call { callee := Callee.value (Operand.func 11), args := #[Operand.tmp 102, Operand.tmp 107], argTypes := #[34, 34] }, type := 4, pos := "l3_programs.go:133", after := #[{ on := 17, ground := Ground.data }, { on := 22, ground := Ground.data }, { on := 12, ground := Ground.chain }, { on := 12, ground := Ground.guard }], guard := some (12, false) }) (v := undef) rfl (by kernel_rfl) (by kernel_rfl) (by kernel_rfl) (fun _ _ _ h => h) (Or.inr ⟨by rfl, rfl⟩) (by assumption) ?_
                    try simp only [Act.put, List.setIfInBounds_toArray, List.set_cons_zero, List.set_cons_succ]
                    refine wpAnyH_take (i := 24) (oi := { dst := some 109, op := Op.unOp UnOp.not 4 (Operand.tmp 108), type := 4, pos := "l3_programs.go:133", after := #[{ on := 23, ground := Ground.data }, { on := 12, ground := Ground.guard }], guard := some (12, false) }) (v := undef) rfl (by kernel_rfl) (by kernel_rfl) (by kernel_rfl) (fun _ _ _ h => h) (Or.inr ⟨by rfl, rfl⟩) (by assumption) ?_
                    try simp only [Act.put, List.setIfInBounds_toArray, List.set_cons_zero, List.set_cons_succ]
                    refine wpAnyH_take (i := 25) (oi := { dst := some 110, op := Op.pick (Operand.tmp 97) (Operand.const (Value.bool true)) (Operand.tmp 109), type := 4, pos := "l3_programs.go:133", after := #[{ on := 12, ground := Ground.data }, { on := 24, ground := Ground.data }], guard := none }) (v := ?_) rfl (by kernel_rfl) (by kernel_rfl) (by kernel_rfl) (fun _ _ _ h => h) (Or.inl ⟨by rfl, ?_⟩) (by assumption) ?_
                    rotate_left
                    · intro wq hSw
                      try dsimp only at hSw
                      go_simp
                      try with_reducible rfl
                    try simp only [Act.put, List.setIfInBounds_toArray, List.set_cons_zero, List.set_cons_succ]
                    refine wpAnyH_done (by kernel_rfl) ?_ _
                    go_wp2_with fail
                    go_ret
                    exact ⟨ret_bool HF.out.symm, hb3⟩
                  · cases ze
                    · have HF := Lib.hid (HNO.out fun e => HQ.out.1 (by trivial) (by injection e))
                      go_wp2_with fail
                      go_region_held3 (fun v => v.cell? ⟨b, o + k * 5 + 3, none⟩ = some (.slice A2 n2 p2) ∧ v.cell? ⟨b, o + k * 5 + 4, none⟩ = some (.slice A3 n3 p3) ∧ v.cell? ⟨b', o' + k * 5 + 3, none⟩ = some (.slice E2 n2' q2) ∧ v.cell? ⟨b', o' + k * 5 + 4, none⟩ = some (.slice E3 n3' q3)) (go_keep)
                        (first
                          | (go_at_call 11; (with_reducible refine Calls.mono SB1.out ?_); rintro ee w2 ⟨rfl, hb2⟩; have hb3 := hb.drew.trans (hb2.mono hb.drew.size); have hb3r := hbr.trans (hb2.mono hbr.size); have g3 := (hb2.cell (p := ⟨b, o + k * 5 + 3, none⟩) hBr).trans c3; have g4 := (hb2.cell (p := ⟨b, o + k * 5 + 4, none⟩) hBr).trans c4; have h3 := (hb2.cell (p := ⟨b', o' + k * 5 + 3, none⟩) hBr').trans d3; have h4 := (hb2.cell (p := ⟨b', o' + k * 5 + 4, none⟩) hBr').trans d4; have SE1 := Lib.hid (SE _ hb3).out)
                          | (go_at_call 11; (with_reducible refine Calls.mono SE1.out ?_); rintro ee w4 ⟨rfl, hb4⟩; have hb5 := hb3.trans (hb4.mono hb3.size); have k3 := (hb4.cell (p := ⟨b, o + k * 5 + 3, none⟩) (Nat.lt_of_lt_of_le hBr hb3r.size)).trans g3; have k4 := (hb4.cell (p := ⟨b, o + k * 5 + 4, none⟩) (Nat.lt_of_lt_of_le hBr hb3r.size)).trans g4; have l3 := (hb4.cell (p := ⟨b', o' + k * 5 + 3, none⟩) (Nat.lt_of_lt_of_le hBr' hb3r.size)).trans h3; have l4 := (hb4.cell (p := ⟨b', o' + k * 5 + 4, none⟩) (Nat.lt_of_lt_of_le hBr' hb3r.size)).trans h4))
                      all_goals
                        go_wp2_with fail
                        go_ret
                        exact ⟨ret_bool HF.out.symm, hb5⟩
                    · have HF := Lib.hid (HNX.out (by rw [HAA.out, HP.out.2 (by trivial), HQ.out.2 (by trivial)]))
                      go_wp2_with fail
                      go_region_held3 (fun v => v.cell? ⟨b, o + k * 5 + 3, none⟩ = some (.slice A2 n2 p2) ∧ v.cell? ⟨b, o + k * 5 + 4, none⟩ = some (.slice A3 n3 p3) ∧ v.cell? ⟨b', o' + k * 5 + 3, none⟩ = some (.slice E2 n2' q2) ∧ v.cell? ⟨b', o' + k * 5 + 4, none⟩ = some (.slice E3 n3' q3)) (go_keep)
                        (first
                          | (go_at_call 11; (with_reducible refine Calls.mono SB1.out ?_); rintro ee w2 ⟨rfl, hb2⟩; have hb3 := hb.drew.trans (hb2.mono hb.drew.size); have hb3r := hbr.trans (hb2.mono hbr.size); have g3 := (hb2.cell (p := ⟨b, o + k * 5 + 3, none⟩) hBr).trans c3; have g4 := (hb2.cell (p := ⟨b, o + k * 5 + 4, none⟩) hBr).trans c4; have h3 := (hb2.cell (p := ⟨b', o' + k * 5 + 3, none⟩) hBr').trans d3; have h4 := (hb2.cell (p := ⟨b', o' + k * 5 + 4, none⟩) hBr').trans d4; have SE1 := Lib.hid (SE _ hb3).out)
                          | (go_at_call 11; (with_reducible refine Calls.mono SE1.out ?_); rintro ee w4 ⟨rfl, hb4⟩; have hb5 := hb3.trans (hb4.mono hb3.size); have k3 := (hb4.cell (p := ⟨b, o + k * 5 + 3, none⟩) (Nat.lt_of_lt_of_le hBr hb3r.size)).trans g3; have k4 := (hb4.cell (p := ⟨b, o + k * 5 + 4, none⟩) (Nat.lt_of_lt_of_le hBr hb3r.size)).trans g4; have l3 := (hb4.cell (p := ⟨b', o' + k * 5 + 3, none⟩) (Nat.lt_of_lt_of_le hBr' hb3r.size)).trans h3; have l4 := (hb4.cell (p := ⟨b', o' + k * 5 + 4, none⟩) (Nat.lt_of_lt_of_le hBr' hb3r.size)).trans h4))
                      all_goals
                        go_wp2_with fail
                        go_roundw
                        case rel => exact ⟨k + 1, by omega, by go_num, HF.out, hb5⟩
                        case measure => simp only [intOf]; omega
            · have i4 : ((a.length : Int) == (a'.length : Int)) = false := beq_no (by omega)
              have i5 : ((a.length : Int) != (a'.length : Int)) = true := by rw [bne, i4]; rfl
              have HC := Lib.hid h3; clear h3
              have HX := Lib.hid (HNO.out (fun e => HC.out (by injection e with _ _ e; rw [e])))
              clear SB SE HNO HNX HALL R1 S1 HXA HXB HH HA HB
              obtain ⟨c0, c1, c2, _, _⟩ := C.out.below hb HBw.out
              obtain ⟨d0, d1, d2, _, _⟩ := D.out.below hb HBw'.out
              go_wp2_with fail
              go_quiet (fail)
              have hdn := fun q => below_drewN hb q
              go_wp2_with fail
              go_ret
              exact ⟨ret_bool HX.out.symm, hdn _⟩
          · have i2 : (s.toList == s'.toList) = false := str_eq_false h2
            have i3 : (s.toList != s'.toList) = true := by rw [bne, i2]; rfl
            have HC := Lib.hid h2; clear h2
            have HX := Lib.hid (HNO.out (fun e => HC.out (by injection e)))
            clear SB SE HNO HNX HALL R1 S1 HXA HXB HH HA HB
            obtain ⟨c0, c1, c2, _, _⟩ := C.out.below hb HBw.out
            obtain ⟨d0, d1, d2, _, _⟩ := D.out.below hb HBw'.out
            go_wp2_with fail
            go_quiet (fail)
            have hdn := fun q => below_drewN hb q
            go_wp2_with fail
            go_ret
            exact ⟨ret_bool HX.out.symm, hdn _⟩
        · have i1 : (op == op') = false := beq_no h1
          have i3 : (op != op') = true := by rw [bne, i1]; rfl
          have HC := Lib.hid h1; clear h1
          have HX := Lib.hid (HNO.out (fun e => HC.out (by injection e)))
          clear SB SE HNO HNX HALL R1 S1 HXA HXB HH HA HB
          obtain ⟨c0, c1, c2, _, _⟩ := C.out.below hb HBw.out
          obtain ⟨d0, d1, d2, _, _⟩ := D.out.below hb HBw'.out
          go_wp2_with fail
          go_quiet (fail)
          have hdn := fun q => below_drewN hb q
          go_wp2_with fail
          go_ret
          exact ⟨ret_bool HX.out.symm, hdn _⟩
      · obtain rfl : k = ks.length := by omega
        have HAL := Lib.hid (HZ.out.2 (List.ext_getElem HL.out (fun j h1 h2 => hall j h1 h2 h1)))
        clear hall
        go_wp2_with fail
        go_ret
        exact ⟨ret_bool HAL.out.symm, hb⟩
  · have p4 : ((ks.length : Int) == (ls.length : Int)) = false := beq_no (by omega)
    have p5 : ((ks.length : Int) != (ls.length : Int)) = true := by rw [bne, p4]; rfl
    have HC := Lib.hid (HZ.out.1 fun e => h4 (by rw [e])); clear h4
    go_enter Try.func11, Try.ntmps11
    go_wp2_with fail
    go_ret
    exact ⟨ret_bool HC.out.symm, Below.refl _ _⟩
theorem l3SameList_any : ∀ (N : Nat) (ks : List St) (_ : sizeTL ks ≤ N) (ls : List St) (A B : Option Addr) (c d : Nat) (w : World), StS w (Lt w.heap.size) ks A → StS w (Lt w.heap.size) ls B → bulkTL ks ≤ 1990000 → bulkTL ls ≤ 1990000 → Calls Try.prog 11 #[.slice A ks.length c, .slice B ls.length d] w (BoolB (sameLB ks ls) w)
  | 0, ks, h, ls, A, B, c, d, w, hA, hB, h1, h2 => l3SameList_of ks h1 (fun kk hk => by omega) ls A B c d w hA hB h2
  | N + 1, ks, h, ls, A, B, c, d, w, hA, hB, h1, h2 => l3SameList_of ks h1 (fun kk hk ll A B c d w g1 g2 g3 g4 => l3SameList_any N kk (by omega) ll A B c d w g1 g2 g3 g4) ls A B c d w hA hB h2
end Go.Proofs.Ytljdbjfbcjigaaa
