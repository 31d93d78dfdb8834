/-
  NumbersFor of the model.
-/
import Derived.Test.YtomhomnibikceaaDoorYO
import Derived.Test.YtomhomnibikceaaDoorNU
import Derived.Test.YtomhomnibikceaaDoorNL
namespace Go.Proofs.YtomhomnibikceaaDoor
open Go.RowKit
set_option maxRecDepth 100000

theorem rowInfo : (Tryd.prog.info? 48).map (fun i => (i.zero, i.size, i.bytes)) = some (some (.slice none 0 0), 1, 24) := by kernel_rfl
theorem yIntInfo : (Tryd.prog.info? 3).map (fun i => (i.zero, i.size, i.bytes)) = some (some (.int .i64 0), 1, 8) := by kernel_rfl
theorem ownsRow_empty (base : Nat) (w : World) (hb : base ≤ w.heap.size) : (w.alloc (.cells #[] 48)).ownsRow base 48 1 (.slice (some ⟨w.heap.size, 0, none⟩) 0 0) 0 [] :=
  World.ownsRow_made w #[] 0 hb (Nat.zero_le _) rfl
theorem new_val (w : World) (v : Value) (t : TypeId) : ∀ j u, [v][j]? = some u → (w.alloc (.cells #[v] t)).cell? ((⟨w.heap.size, 0, none⟩ : Addr).add j) = some u := by
  intro j u h
  have hj : j = 0 := by
    have := (List.getElem?_eq_some_iff.1 h).1
    simp at this; omega
  subst hj
  have := alloc_cell w #[v] t (0, 0) 0
  have e : (⟨w.heap.size, 0, none⟩ : Addr).add 0 = ⟨w.heap.size, 0, none⟩ := by simp [Addr.add]
  rw [e, this]
  exact h
theorem slice_one (A : Option Addr) (n c : Nat) : ∀ u ∈ [Value.slice A n c], u.oneCell' = true := by intro u hu; simp at hu; subst hu; rfl
theorem int_ones (l : List Int) : ∀ u ∈ iCs l, u.oneCell' = true := by
  intro u hu
  unfold iCs at hu
  obtain ⟨x, _, rfl⟩ := List.mem_map.1 hu
  rfl
/-- A row of numbers stays when a row of slices grows. -/
theorem ownN_grown {base base' n : Nat} {w w' : World} {l : List Int} {x v : Value} {vs : List Value} (h : OwnN base w l x) (ho : w.ownsRow base' 48 1 v n vs) (hg : w.grownBy w' v.ownBlock) : OwnN base w' l x := by
  refine ⟨h.1, ?_⟩
  rcases h.2 with e | ⟨g, cap, cur, e, hb, hh, r⟩
  · exact .inl e
  · refine .inr ⟨g, cap, cur, e, hb, ?_, r⟩
    rw [hg.block g (Array.getElem?_eq_some_iff.1 hh).1 (fun eg => ?_)]
    · exact hh
    · rcases ho.2 with ⟨ev, _⟩ | ⟨g', cap', cur', ev, _, hh', _⟩
      · subst ev; cases eg
      · subst ev
        obtain rfl : g = g' := by injection eg
        rw [hh] at hh'
        injection hh' with hh'
        injection hh' with _ e2 _
        exact absurd e2 (by decide)
theorem own_slice {base n : Nat} {w : World} {v : Value} {vs : List Value} (h : w.ownsRow base 48 1 v n vs) (hn : n ≠ 0) : ∃ g c, v = .slice (some ⟨g, 0, none⟩) n c ∧ g < w.heap.size ∧ ∀ j, j < n → w.cell? ⟨g, 0 + j, none⟩ = vs[j]? := by
  have h' := h
  rcases h.2 with ⟨e, hz⟩ | ⟨g, cap, cur, e, hb, _⟩
  · exact absurd hz hn
  · subst e
    exact ⟨g, cap, rfl, (h'.lt g rfl).2, fun j hj => by rw [Nat.zero_add]; exact h'.cellAt j (by omega)⟩
/-- What the first rounds have made. -/
structure Inp (B n k : Nat) (v : Value) (w : World) : Prop where
  row : ∃ vals, w.ownsRow B 48 1 v k vals ∧ ∀ j, j < k → ∃ A c, vals[j]? = some (.slice A n c) ∧ OwnN B w (listI n j) (.slice A n c)
theorem Inp.rd {B n : Nat} {v : Value} {w : World} (h : Inp B n 3 v w) (hn : n ≤ 3) : ∃ A c, v = .slice A 3 c ∧ RdSS w (Lt w.heap.size) 3 n A := by
  obtain ⟨vals, ho, hj⟩ := h.row
  obtain ⟨g, c, rfl, hg, hc⟩ := own_slice ho (by decide)
  refine ⟨_, _, rfl, .inr ⟨_, _, rfl, hg, fun i hi => ?_⟩⟩
  obtain ⟨A, c', h1, h2⟩ := hj i hi
  obtain ⟨A2, c2, e2, h3⟩ := h2.slice
  rw [listI_len hn] at e2
  injection e2 with e3 _ e4
  subst e3
  exact ⟨A, c', by rw [hc i hi]; exact h1, h3.lt (Nat.le_refl _)⟩
set_option maxHeartbeats 8000000 in
theorem l5Inputs_any (n : Nat) (hn : n ≤ 3) (w : World) :
    Calls Tryd.prog 22 #[.int .i64 n] w fun e w' => (∃ A c, e = .returned (.slice A 3 c) ∧ RdSS w' (Lt w'.heap.size) 3 n A) ∧ Below w.heap.size w w' := by
  obtain ⟨i0, hi, hz0, hz1, hz2⟩ := info_parts yIntInfo
  obtain ⟨i1, hj, hy0, hy1, hy2⟩ := info_parts rowInfo
  have b0 := Bz.new w 3 (iCz (numsI 0))
  have hb0 := (Below.refl w.heap.size w).alloc (Nat.le_refl _) (.cells (iCz (numsI 0)).toArray 3)
  have e0 : w.alloc (.cells (iCz (numsI 0)).toArray 3) = w.alloc (.cells #[.int .i64 0, .int .i64 0, .int .i64 0] 3) := rfl
  rw [e0] at b0 hb0
  have z0 : (w.alloc (.cells #[.int .i64 0, .int .i64 0, .int .i64 0] 3)).heap.size = w.heap.size + 1 := World.size_alloc _ _
  obtain ⟨w0, ew0⟩ : ∃ x, x = w.alloc (.cells #[.int .i64 0, .int .i64 0, .int .i64 0] 3) := ⟨_, rfl⟩
  rw [← ew0] at b0 hb0 z0
  have b1 := Bz.new w0 3 (iCz (numsI 1))
  have e1 : w0.alloc (.cells (iCz (numsI 1)).toArray 3) = w0.alloc (.cells #[.int .i64 1, .int .i64 2, .int .i64 3] 3) := rfl
  have hc1 := (Below.refl w0.heap.size w0).alloc (Nat.le_refl _) (.cells (iCz (numsI 1)).toArray 3)
  rw [e1] at b1 hc1
  have z1 : (w0.alloc (.cells #[.int .i64 1, .int .i64 2, .int .i64 3] 3)).heap.size = w0.heap.size + 1 := World.size_alloc _ _
  obtain ⟨w1, ew1⟩ : ∃ x, x = w0.alloc (.cells #[.int .i64 1, .int .i64 2, .int .i64 3] 3) := ⟨_, rfl⟩
  rw [← ew1] at b1 hc1 z1
  have b2 := Bz.new w1 3 (iCz (numsI 2))
  have e2 : w1.alloc (.cells (iCz (numsI 2)).toArray 3) = w1.alloc (.cells #[.int .i64 255, .int .i64 16, .int .i64 7] 3) := rfl
  have hc2 := (Below.refl w1.heap.size w1).alloc (Nat.le_refl _) (.cells (iCz (numsI 2)).toArray 3)
  rw [e2] at b2 hc2
  have z2 : (w1.alloc (.cells #[.int .i64 255, .int .i64 16, .int .i64 7] 3)).heap.size = w1.heap.size + 1 := World.size_alloc _ _
  obtain ⟨w2, ew2⟩ : ∃ x, x = w1.alloc (.cells #[.int .i64 255, .int .i64 16, .int .i64 7] 3) := ⟨_, rfl⟩
  rw [← ew2] at b2 hc2 z2
  rw [z0] at b1
  rw [z1, z0] at b2
  have s1 : w1.heap.size = w.heap.size + 2 := by omega
  have s2 : w2.heap.size = w.heap.size + 3 := by omega
  have b3 := Bz.new w2 48 (outZ w.heap.size 3 3 3)
  have hc3 := (Below.refl w2.heap.size w2).alloc (Nat.le_refl _) (.cells (outZ w.heap.size 3 3 3).toArray 48)
  have e3 : w2.alloc (.cells (outZ w.heap.size 3 3 3).toArray 48) = w2.alloc (.cells #[.slice (some ⟨w.heap.size, 0, none⟩) 3 3, .slice (some ⟨w.heap.size + 1, 0, none⟩) 3 3, .slice (some ⟨w.heap.size + 2, 0, none⟩) 3 3] 48) := rfl
  rw [e3] at b3 hc3
  have z3 : (w2.alloc (.cells #[.slice (some ⟨w.heap.size, 0, none⟩) 3 3, .slice (some ⟨w.heap.size + 1, 0, none⟩) 3 3, .slice (some ⟨w.heap.size + 2, 0, none⟩) 3 3] 48)).heap.size = w2.heap.size + 1 := World.size_alloc _ _
  obtain ⟨w3, ew3⟩ : ∃ x, x = w2.alloc (.cells #[.slice (some ⟨w.heap.size, 0, none⟩) 3 3, .slice (some ⟨w.heap.size + 1, 0, none⟩) 3 3, .slice (some ⟨w.heap.size + 2, 0, none⟩) 3 3] 48) := ⟨_, rfl⟩
  rw [← ew3] at b3 hc3 z3
  rw [s2] at b3
  have HO := Lib.hid (show Own3 w3 w.heap.size 3 3 3 (iCz (numsI 0)) (iCz (numsI 1)) (iCz (numsI 2)) from ⟨((b0.on hc1).on hc2).on hc3, (b1.on hc2).on hc3, b2.on hc3, b3⟩)
  have hb3 := ((hb0.trans (hc1.mono hb0.size)).trans (hc2.mono (Nat.le_trans hb0.size hc1.size))).trans (hc3.mono (Nat.le_trans (Nat.le_trans hb0.size hc1.size) hc2.size))
  have EW := Lib.hid (show ((((w.alloc (.cells #[.int .i64 0, .int .i64 0, .int .i64 0] 3)).alloc (.cells #[.int .i64 1, .int .i64 2, .int .i64 3] 3)).alloc (.cells #[.int .i64 255, .int .i64 16, .int .i64 7] 3)).alloc (.cells #[.slice (some ⟨w.heap.size, 0, none⟩) 3 3, .slice (some ⟨w.heap.size + 1, 0, none⟩) 3 3, .slice (some ⟨w.heap.size + 1 + 1, 0, none⟩) 3 3] 48)) = w3 from by rw [ew3, ew2, ew1, ew0])
  have s3 : w3.heap.size = w.heap.size + 4 := by omega
  clear b0 b1 b2 b3 hb0 hc1 hc2 hc3 e0 e1 e2 e3 ew0 ew1 ew2 ew3 z0 z1 z2 z3 s1 s2
  have OE := ownsRow_empty (w.heap.size + 4) w3 (by omega)
  have hc4 := (Below.refl w3.heap.size w3).alloc (Nat.le_refl _) (.cells #[] 48)
  have hb4 := hb3.trans (hc4.mono hb3.size)
  have HI := Lib.hid (show Inp (w.heap.size + 4) n 0 (.slice (some ⟨w3.heap.size, 0, none⟩) 0 0) (w3.alloc (.cells #[] 48)) from ⟨[], OE, fun j h => absurd h (by omega)⟩)
  have HO4 := Lib.hid (HO.out.on hc4)
  have hlen4 : w.heap.size + 4 ≤ (w3.alloc (.cells #[] 48)).heap.size := by rw [World.size_alloc]; omega
  have S3 := Lib.hid s3
  clear OE hc4 hb3 HO s3
  have hk0 : (0 : Int) ≤ n := by omega
  have hk3 : (n : Int) ≤ 3 := by omega
  go_enter Tryd.func22, Tryd.ntmps22
  go_wp2_with fail
  rw [EW.out, show w.heap.size + 1 + 1 + 1 = w.heap.size + 3 from rfl]
  clear EW
  generalize w3.alloc (.cells #[] 48) = w4 at *
  go_loopw [4, 5] (fun v i wr => ∃ k : Nat, k ≤ 3 ∧ i = .int .i64 k ∧ Inp (w.heap.size + 4) n k v wr ∧ Own3 wr w.heap.size 3 3 3 (iCz (numsI 0)) (iCz (numsI 1)) (iCz (numsI 2)) ∧ Below w.heap.size w wr ∧ w.heap.size + 4 ≤ wr.heap.size) (fun _ i _ => 3 - (intOf i).toNat)
  case atStart => exact ⟨0, by omega, rfl, by have h := HI.out; rw [S3.out] at h; exact h, HO4.out, hb4, hlen4⟩
  case round =>
    clear HI HO4 hb4 hlen4 S3
    obtain ⟨k, hk, rfl, hin, ho, hb, hl⟩ := hrel
    by_cases h3 : k = 3
    · subst h3
      have HRD := Lib.hid (hin.rd hn)
      clear hin ho
      obtain ⟨A, c, rfl, hrd⟩ := HRD.out
      have HR2 := Lib.hid hrd
      clear HRD hrd
      go_wp2_with fail
      go_ret
      exact ⟨⟨_, _, rfl, HR2.out⟩, hb⟩
    · have hk3' : k < 3 := by omega
      have d' : wr.cell? ⟨w.heap.size + 3, k, none⟩ = some (.slice (some ⟨w.heap.size + k, 0, none⟩) 3 3) := by
        rw [ho.o.cell k]
        have : k = 0 ∨ k = 1 ∨ k = 2 := by omega
        rcases this with rfl | rfl | rfl <;> rfl
      have rk : Bz wr (w.heap.size + k) 3 (iCz (numsI k)) := by
        have : k = 0 ∨ k = 1 ∨ k = 2 := by omega
        rcases this with rfl | rfl | rfl
        · exact ho.r0
        · exact ho.r1
        · exact ho.r2
      have hcA := (Below.refl wr.heap.size wr).alloc (Nat.le_refl _) (.cells #[] 3)
      have dA := (hcA.cell (p := ⟨w.heap.size + 3, k, none⟩) ho.o.lt).trans d'
      have HOE := Lib.hid (ownN_empty (w.heap.size + 4) wr hl)
      have hbz : w.heap.size + 4 ≤ (wr.alloc (.cells #[] 3)).heap.size := by rw [World.size_alloc]; omega
      have HNW := Lib.hid (show ∀ j u, (iCs (listI n k))[j]? = some u → (wr.alloc (.cells #[] 3)).cell? ((⟨w.heap.size + k, 0, none⟩ : Addr).add j) = some u from fun j u hu => by
        have h1 : j < (listI n k).length := by
          have := (List.getElem?_eq_some_iff.1 hu).1
          rw [iCs_len] at this; exact this
        have hjn : j < n := by rw [listI_len hn] at h1; exact h1
        have h2 : (listI n k)[j]? = (numsI k)[j]? := by unfold listI; rw [List.getElem?_take, if_pos hjn]
        have e : (⟨w.heap.size + k, 0, none⟩ : Addr).add j = ⟨w.heap.size + k, j, none⟩ := by simp [Addr.add]; exact fun h => h.symm
        rw [e, (rk.on hcA).cell j]
        unfold iCs at hu
        unfold iCz
        rw [List.getElem?_map, ← h2, ← List.getElem?_map]
        exact hu)
      have HTO := Lib.hid (int_ones (listI n k))
      have HIN := Lib.hid hin
      have HOO := Lib.hid ho
      have HLN := Lib.hid (show (iCs (listI n k)).length = n * 1 by rw [iCs_len, listI_len hn, Nat.mul_one])
      clear hin ho rk
      obtain ⟨vals, hrow, hvs⟩ := HIN.out.row
      have HROW := Lib.hid hrow
      have HVS := Lib.hid hvs
      clear hrow hvs HIN
      go_wp2_with (first
        | (at_builtin; refine wpList_append_own _ rfl _ _ 48 rfl (w.heap.size + 4) 3 i0 (.int .i64 0) 1 8 Tryd.underlying48 hi hz0 hz1 hz2 rfl (by decide) _ 0 [] rfl HOE.out ⟨w.heap.size + k, 0, none⟩ n 3 (iCs (listI n k)) rfl HLN.out HNW.out HTO.out (by unfold maxLen; omega) (by omega) hbz ?_
           intro v1 w5 hown1 hgrow1 _
           have hb5 : Below wr.heap.size wr w5 := hcA.grown hgrow1 hcA.size (fun j e => by have e2 : (some wr.heap.size : Option Nat) = some j := e; injection e2 with e3; omega)
           have ON1 := Lib.hid (show OwnN (w.heap.size + 4) w5 (listI n k) v1 by unfold OwnN; rw [listI_len hn]; simpa using hown1)
           clear hown1 hgrow1
           obtain ⟨A1, c1, e1, _⟩ := ON1.out.slice
           rw [listI_len hn] at e1
           subst e1
           have hbw := (Below.refl w5.heap.size w5).alloc (Nat.le_refl _) (.cells #[.slice A1 n c1] 48)
           have HRW := Lib.hid ((World.ownsRow.kept (row := none) HROW.out ⟨hb5.os, hb5.tape, hb5.output, hb5.size, fun i hi _ => hb5.block i hi⟩ (Classical.em _)).alloc (.cells #[.slice A1 n c1] 48))
           have hbz2 : w.heap.size + 4 ≤ (w5.alloc (.cells #[.slice A1 n c1] 48)).heap.size := Nat.le_trans hl (Nat.le_trans hb5.size hbw.size)
           have HNV := Lib.hid (new_val w5 (.slice A1 n c1) 48)
           have HSO := Lib.hid (slice_one A1 n c1))
        | (at_builtin; refine wpList_append_own _ rfl _ _ 26 rfl (w.heap.size + 4) 48 i1 (.slice none 0 0) 1 24 Tryd.underlying26 hj hy0 hy1 hy2 rfl (by decide) _ k vals rfl HRW.out ⟨w5.heap.size, 0, none⟩ 1 1 [.slice A1 n c1] rfl rfl HNV.out HSO.out (by unfold maxLen; omega) (by omega) hbz2 ?_
           intro v2 w7 hown2 hgrow2 _
           have hb7 : Below (w.heap.size + 4) w5 w7 := ((Below.refl (w.heap.size + 4) w5).trans (hbw.mono (by have := hb5.size; omega))).grown hgrow2 hbz2 (fun j e => (HRW.out.lt j e).1)
           have HIN2 := Lib.hid (show Inp (w.heap.size + 4) n (k + 1) v2 w7 from ⟨vals ++ [.slice A1 n c1], hown2, fun j hj => by
             have hvl : vals.length = k := by have := HRW.out.1; omega
             by_cases hjk : j = k
             · subst hjk
               exact ⟨A1, c1, by rw [List.getElem?_append_right (by omega)]; simp [hvl], ownN_grown (ownN_below ON1.out hbw) HRW.out hgrow2⟩
             · obtain ⟨A, c, h1, h2⟩ := HVS.out j (by omega)
               exact ⟨A, c, by rw [List.getElem?_append_left (by omega)]; exact h1, ownN_grown (ownN_below (ownN_below h2 hb5) hbw) HRW.out hgrow2⟩⟩)
           clear hown2 hgrow2)
        | fail)
      have hbf := hb.trans (((hb5.mono (by omega : w.heap.size + 4 ≤ wr.heap.size)).trans hb7).mono (Nat.le_add_right _ _))
      have HO7 := Lib.hid (show Own3 w7 w.heap.size 3 3 3 (iCz (numsI 0)) (iCz (numsI 1)) (iCz (numsI 2)) from by
        have h5 := HOO.out.on hb5
        exact ⟨h5.r0.below hb7 (by omega), h5.r1.below hb7 (by omega), h5.r2.below hb7 (by omega), h5.o.below hb7 (by omega)⟩)
      have hl7 : w.heap.size + 4 ≤ w7.heap.size := by have h1 := hb5.size; have h2 := hb7.size; omega
      go_roundw
      case rel => exact ⟨k + 1, by omega, by go_num, HIN2.out, HO7.out, hbf, hl7⟩
      case measure => simp only [intOf]; omega
set_option maxHeartbeats 4000000 in
theorem specNumbersFor_any (u : Un) (hn : bulkUn u ≤ 1048576) (v : Value) (w : World) (hV : UnV w (Lt w.heap.size) u v) :
    Calls Tryd.prog 7 #[v] w fun e w' => (∃ A c, e = .returned (.slice A (numM u) c) ∧ RdSS w' (Lt w'.heap.size) (numM u) (numN u) A) ∧ Below w.heap.size w w' := by
  have UV := fun W (h : Below w.heap.size w W) => specUnitValid_any u hn v W (hV.on h h.size)
  obtain ⟨A, cap, rfl, hR⟩ := hV
  have hln : u.codes.length ≤ 1048576 := by have := length_le_bulkR bulkCd u.codes; unfold bulkUn at hn; omega
  have HNA := Lib.hid (fun h => numN_at (u := u) h)
  have HM := Lib.hid (show numM u = if unB u = true then 3 else 0 from rfl)
  have hb0 : Below w.heap.size w (w.alloc (.cells #[.slice A u.codes.length cap] 30)) := (Below.refl _ _).alloc (Nat.le_refl _) _
  have K0 := Lib.hid (Bz.new w 30 [.slice A u.codes.length cap])
  have K0' := Lib.hid (show Bz (w.alloc (.cells #[.slice A u.codes.length cap] 30)) w.heap.size 30 [.slice A u.codes.length cap] from K0.out)
  have UV1 := UV _ hb0
  clear UV
  have HR := Lib.hid hR
  clear hR hn K0
  unfold BoolB at UV1
  have hz : ∃ z, unB u = z := ⟨_, rfl⟩
  obtain ⟨z, hz⟩ := hz
  rw [hz] at UV1
  replace UV1 := Lib.hid UV1
  cases z
  · have HW := Lib.hid (show numM u = 0 by rw [HM.out, hz]; rfl)
    clear hz K0' HR HNA HM
    go_enter Tryd.func7, Tryd.ntmps7
    go_wp2_with fail
    (with_reducible refine Calls.mono UV1.out ?_)
    rintro ee w1 ⟨rfl, hb1⟩
    have hb2 := hb0.trans (hb1.mono hb0.size)
    have hb3 := hb2.alloc hb2.size (.cells #[] 48)
    go_wp2_with fail
    go_ret
    exact ⟨⟨_, _, by rw [HW.out]; rfl, .inl HW.out⟩, hb3⟩
  have HW := Lib.hid (show numM u = 3 by rw [HM.out, hz]; rfl)
  obtain ⟨L, hL, hp, hn3⟩ := HNA.out hz
  have HL := Lib.hid hL
  have HP := Lib.hid (show ∀ h : L < u.codes.length, (u.codes[L]'h).params = (numN u : Int) from fun _ => hp)
  clear hz HNA HM hp hL
  go_enter Tryd.func7, Tryd.ntmps7
  go_wp2_with fail
  generalize w.alloc (.cells #[.slice A u.codes.length cap] 30) = w0 at *
  (with_reducible refine Calls.mono UV1.out ?_)
  rintro ee w1 ⟨rfl, hb1⟩
  have hb2 := hb0.trans (hb1.mono hb0.size)
  have K1 := K0'.out.on hb1
  have k1 := show w1.cell? ⟨w.heap.size, 0, none⟩ = some (.slice A u.codes.length cap) from (K1.cell 0).trans rfl
  obtain ⟨bb, oo, hA, hB, d0, hrest⟩ := (HR.out.on hb2 hb2.size).at_ (i := L) (by have := HL.out; omega)
  clear hrest
  rw [HP.out _] at d0
  rw [hA, HL.out] at k1
  obtain ⟨n, en⟩ : ∃ n, n = numN u := ⟨_, rfl⟩
  rw [← en] at d0 hn3
  have EN := Lib.hid en
  clear en
  have SI := Lib.hid (l5Inputs_any n hn3 w1)
  have hLs : L ≤ 1048576 := by have := HL.out; omega
  have hx0 : (0 : Int) ≤ (L : Nat) := by omega
  clear K1 K0' UV1 hb1 HP hA hln
  have hl2 := HL.out
  rw [hl2]
  clear hl2 HL
  go_wp2_with fail
  (with_reducible refine Calls.mono SI.out ?_)
  rintro ee w2 ⟨⟨A2, c2, rfl, hr⟩, hb3⟩
  have HRD := Lib.hid hr
  have hb4 := hb2.trans (hb3.mono hb2.size)
  clear hr
  go_wp2_with fail
  go_ret
  exact ⟨⟨_, _, by rw [HW.out]; rfl, by rw [HW.out, ← EN.out]; exact HRD.out⟩, hb4⟩
end Go.Proofs.YtomhomnibikceaaDoor
