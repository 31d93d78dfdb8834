/-
  What a form asks of a whole statement: the program.
-/
import Derived.Test.YtkgfamagienfpaaDoorV6
namespace Go.Proofs.YtkgfamagienfpaaDoor
open Go.RowKit
set_option maxRecDepth 100000

theorem bodyFit_w (op : Int) (n : Nat) : bodyFit op n = (wbB op || decide (n = 0)) := by
  unfold bodyFit wbB
  by_cases h : op = 5 ∨ op = 6 <;> by_cases h2 : n = 0 <;> simp [h, h2]
theorem elseFit_w (op : Int) (n : Nat) : elseFit op n = (weB op || decide (n = 0)) := by
  unfold elseFit weB
  by_cases h : op = 5 <;> by_cases h2 : n = 0 <;> simp [h, h2]
theorem two_new (w : World) (xs ys : List Value) (t t' : TypeId) :
    BxL ((w.alloc (.cells xs.toArray t)).alloc (.cells ys.toArray t')) w.heap.size xs ∧ BxL ((w.alloc (.cells xs.toArray t)).alloc (.cells ys.toArray t')) (w.heap.size + 1) ys ∧ w.heap.size + 1 < ((w.alloc (.cells xs.toArray t)).alloc (.cells ys.toArray t')).heap.size ∧ Below w.heap.size w ((w.alloc (.cells xs.toArray t)).alloc (.cells ys.toArray t')) := by
  have s1 : (w.alloc (.cells xs.toArray t)).heap.size = w.heap.size + 1 := World.size_alloc _ _
  have h1 := (Below.refl _ (w.alloc (.cells xs.toArray t))).alloc (Nat.le_refl _) (.cells ys.toArray t')
  have B := BxL.new (w.alloc (.cells xs.toArray t)) ys t'
  rw [s1] at B
  exact ⟨(BxL.new w xs t).below h1 (by omega), B, by rw [World.size_alloc, s1]; omega, two_boxes w _ _⟩
set_option maxHeartbeats 4000000 in
theorem formFits_any (op : Int) (t : St) (v : Value) (w : World) (hV : StV w (Lt w.heap.size) t v) (hbk : bulkT t ≤ 1048576) (T : Tabs w) (G : Sgn w) :
    Calls Tryd.prog 58 #[formV op, v] w (BoolB (restFit op t.name t.args t.body.length t.els.length) w) := by
  obtain ⟨A1, p1, A2, p2, A3, p3, rfl, r1, _, _⟩ := hV
  have HQ := Lib.hid (show restFit op t.name t.args t.body.length t.els.length = (nameFit op t.name && argsFit op t.args && bodyFit op t.body.length && elseFit op t.els.length) from rfl)
  rw [bodyFit_w, elseFit_w] at HQ
  generalize restFit op t.name t.args t.body.length t.els.length = res at *
  rw [bulkT_kids] at hbk
  have hlb := length_le_bulkTL t.body
  have hle := length_le_bulkTL t.els
  generalize t.op = o at *
  generalize t.name = s at *
  generalize t.args = al at *
  have hn2 : t.body.length ≤ 1048576 := by omega
  have hn3 : t.els.length ≤ 1048576 := by omega
  have hbl : bulkL al ≤ 1048576 := by omega
  clear hbk hlb hle
  generalize t.body.length = nb at *
  generalize t.els.length = ne at *
  have H2 := two_new w [.int .i64 op, .string (fKey op), .bool (nmB op), .int .i64 (argN op : Int), .bool (clB op), .bool (wbB op), .bool (weB op)] [.int .i64 o, .string s, .slice A1 al.length p1, .slice A2 nb p2, .slice A3 ne p3] 92 31
  have e1 : (w.alloc (.cells [.int .i64 op, .string (fKey op), .bool (nmB op), .int .i64 (argN op : Int), .bool (clB op), .bool (wbB op), .bool (weB op)].toArray 92)).alloc (.cells [.int .i64 o, .string s, .slice A1 al.length p1, .slice A2 nb p2, .slice A3 ne p3].toArray 31) = (w.alloc (.cells #[.int .i64 op, .string (fKey op), .bool (nmB op), .int .i64 (argN op : Int), .bool (clB op), .bool (wbB op), .bool (weB op)] 92)).alloc (.cells #[.int .i64 o, .string s, .slice A1 al.length p1, .slice A2 nb p2, .slice A3 ne p3] 31) := rfl
  rw [e1] at H2
  clear e1
  obtain ⟨hF, hS, hlt, hb⟩ := H2
  have CN := fun W (h : Below w.heap.size w W) => Lib.hid (fitsName_any op s W (T.below h))
  have CA := fun W (h : Below w.heap.size w W) => Lib.hid (fitsArgs_any op al A1 p1 W (r1.on (w' := W) (B' := W.heap.size) h h.size) hbl (T.below h) (G.below h))
  have BF := Lib.hid hF
  have BS := Lib.hid hS
  clear T G r1 hbl hF hS
  unfold formV at CN CA ⊢
  generalize fKey op = key at *
  generalize nmB op = nm at *
  generalize (argN op : Int) = ar at *
  generalize clB op = cl at *
  generalize wbB op = wb at *
  generalize weB op = we at *
  go_enter Tryd.func58, Tryd.ntmps58
  go_upto_region 1 with (fail)
  generalize (w.alloc (.cells #[.int .i64 op, .string key, .bool nm, .int .i64 ar, .bool cl, .bool wb, .bool we] 92)).alloc (.cells #[.int .i64 o, .string s, .slice A1 al.length p1, .slice A2 nb p2, .slice A3 ne p3] 31) = wa at *
  have hlt0 : w.heap.size < wa.heap.size := Nat.lt_of_succ_lt hlt
  have c0 := BF.out 0 _ rfl
  have c1 := BF.out 1 _ rfl
  have c2 := BF.out 2 _ rfl
  have c3 := BF.out 3 _ rfl
  have c4 := BF.out 4 _ rfl
  have c5 := BF.out 5 _ rfl
  have c6 := BF.out 6 _ rfl
  have s1 := BS.out 1 _ rfl
  have CN1 := (CN _ hb).out
  clear CN
  cases h1 : nameFit op s
  · rw [h1] at CN1
    have HN := Lib.hid (show res = false by rw [HQ.out, h1]; rfl)
    clear h1 CA HQ
    replace CN1 := Lib.hid CN1
    go_wp2_with ((go_at_call 74; (with_reducible refine Calls.mono CN1.out ?_); rintro ee w2 ⟨rfl, hb2⟩; have hb3 := hb.trans (hb2.mono hb.size)))
    go_ret
    exact ⟨by rw [HN.out]; rfl, hb3⟩
  rw [h1] at CN1
  have H1 := Lib.hid h1
  clear h1
  replace CN1 := Lib.hid CN1
  go_wp2_with fail
  (with_reducible refine Calls.mono CN1.out ?_)
  rintro ee w2 ⟨rfl, hb2⟩
  have hb3 := hb.trans (hb2.mono hb.size)
  have BF2 := Lib.hid (BF.out.below hb2 hlt0)
  have BS2 := Lib.hid (BS.out.below hb2 hlt)
  replace hlt := Nat.lt_of_lt_of_le hlt hb2.size
  replace hlt0 := Nat.lt_of_lt_of_le hlt0 hb2.size
  clear c0 c1 c2 c3 c4 c5 c6 s1 hb hb2 CN1 BF BS
  have c0 := BF2.out 0 _ rfl
  have c1 := BF2.out 1 _ rfl
  have c2 := BF2.out 2 _ rfl
  have c3 := BF2.out 3 _ rfl
  have c4 := BF2.out 4 _ rfl
  have c5 := BF2.out 5 _ rfl
  have c6 := BF2.out 6 _ rfl
  have s2 := BS2.out 2 _ rfl
  have CA1 := (CA _ hb3).out
  clear CA
  cases h2 : argsFit op al
  · rw [h2] at CA1
    have HN := Lib.hid (show res = false by rw [HQ.out, H1.out, h2]; rfl)
    clear h2 HQ H1
    replace CA1 := Lib.hid CA1
    go_wp2_with ((go_at_call 75; (with_reducible refine Calls.mono CA1.out ?_); rintro ee w4 ⟨rfl, hb4⟩; have hb5 := hb3.trans (hb4.mono hb3.size)))
    go_ret
    exact ⟨by rw [HN.out]; rfl, hb5⟩
  rw [h2] at CA1
  have H2 := Lib.hid h2
  clear h2
  replace CA1 := Lib.hid CA1
  go_wp2_with fail
  (with_reducible refine Calls.mono CA1.out ?_)
  rintro ee w4 ⟨rfl, hb4⟩
  have hb5 := hb3.trans (hb4.mono hb3.size)
  have BF4 := Lib.hid (BF2.out.below hb4 hlt0)
  have BS4 := Lib.hid (BS2.out.below hb4 hlt)
  clear c0 c1 c2 c3 c4 c5 c6 s2 hb3 hb4 CA1 BF2 BS2
  have c5 := BF4.out 5 _ rfl
  have c6 := BF4.out 6 _ rfl
  have s3 := BS4.out 3 _ rfl
  have s4 := BS4.out 4 _ rfl
  have HQ2 := Lib.hid (show res = ((wb || decide (nb = 0)) && (we || decide (ne = 0))) by rw [HQ.out, H1.out, H2.out]; rfl)
  clear HQ H1 H2 BF4 BS4 hlt hlt0
  cases wb <;> cases we <;> by_cases hb0 : nb = 0 <;> by_cases he0 : ne = 0
  all_goals
    have HN := Lib.hid HQ2.out
    have z1 : ((nb : Int) == 0) = decide (nb = 0) := by rw [Bool.eq_iff_iff]; simp
    have z2 : ((ne : Int) == 0) = decide (ne = 0) := by rw [Bool.eq_iff_iff]; simp
    first | rw [decide_eq_true hb0] at z1 | rw [decide_eq_false hb0] at z1
    first | rw [decide_eq_true he0] at z2 | rw [decide_eq_false he0] at z2
    simp [hb0, he0] at HN
    clear HQ2
    go_wp2_with fail
    go_ret
    exact ⟨by rw [HN.out]; rfl, hb5⟩
end Go.Proofs.YtkgfamagienfpaaDoor
