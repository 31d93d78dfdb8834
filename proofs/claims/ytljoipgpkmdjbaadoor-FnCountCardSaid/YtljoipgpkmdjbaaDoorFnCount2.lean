/-
  The law that each word is of one kind: its walk.
-/
import Derived.Test.YtljoipgpkmdjbaaDoorFnCount
import Derived.Deep.LoopGhost
namespace Go.Proofs.YtljoipgpkmdjbaaDoor
open Go.RowKit
set_option maxRecDepth 100000

/-- What the two appends leave. -/
def BothRel (w5 : World) (n : Int) (s : ByteArray) (ws : List (Int × ByteArray)) (v : Value) (wx : World) : Prop := ∃ (A7 : Option Addr) (cap7 : Nat), v = .slice A7 (ws ++ [(n, s)]).length cap7 ∧ Words wx wx.heap.size A7 (ws ++ [(n, s)]) ∧ Below w5.heap.size w5 wx
set_option maxHeartbeats 16000000 in
theorem fnCount_walk (A : Option Addr) (l : List UInt8) (cap : Nat) (A' : Option Addr) (l' : List UInt8) (cap' : Nat) (w : World) (hB : Bytes w w.heap.size A l) (hn : l.length ≤ cap) (hcap : cap ≤ 9223372036854775807)
    (hB' : Bytes w w.heap.size A' l') (hn' : l'.length ≤ cap') (hcap' : cap' ≤ 9223372036854775807) (T : Tabs w) (N : NTabs w) :
    Calls Tryd.prog 3 #[.slice A l.length cap, .slice A' l'.length cap'] w fun e w' => e = .returned (.bool true) ∧ Below w.heap.size w w' := by
  by_cases hl : 1048576 < l.length
  · clear hB hB' T N
    go_enter Tryd.func3, Tryd.ntmps3
    go_wp2
    go_ret
    exact ⟨rfl, Below.refl _ _⟩
  by_cases hl2 : 1048576 < l'.length
  · clear hB hB' T N
    go_enter Tryd.func3, Tryd.ntmps3
    go_wp2
    go_ret
    exact ⟨rfl, Below.refl _ _⟩
  have hla : l.length ≤ 1048576 := by omega
  have hlb : l'.length ≤ 1048576 := by omega
  have DC := Lib.hid (drawCountKind_any A l cap w hB hn hcap)
  have DW := fun W h => Lib.hid (drawWordValid_any A' l' cap' W h hn' hcap')
  clear hl hl2 hB
  go_enter Tryd.func3, Tryd.ntmps3
  go_wp2_with fail
  refine DC.out.mono ?_
  rintro e w1 ⟨B, v, ws, kind, hlen, hsz, rfl, hO1, hb1⟩
  obtain ⟨A1, cap1, rfl, hW1⟩ := words_own hO1
  have hB1 : Bytes w1 w1.heap.size A' l' := by
    intro hne
    obtain ⟨b, o, e, hlt, hc⟩ := hB'.below hb1 hne
    exact ⟨b, o, e, Nat.lt_of_lt_of_le hlt hb1.size, hc⟩
  have IK := Lib.hid (implCountKind_any A1 ws cap1 kind w1 hW1 (by omega))
  have SK := fun W hW => Lib.hid (specCountKind_any A1 ws cap1 kind W hW (by omega))
  have hcn := cntK_le ws kind ws.length
  have HSN := Lib.hid (fun n s => cntK_snoc ws (n, s) kind)
  have HW1 := Lib.hid hW1
  have HO1 := Lib.hid hO1
  have HB1 := Lib.hid hB1
  clear DC hO1 hW1 hB1 hB' hsz
  generalize cntK ws kind ws.length = cn at *
  have q1 : ((cn : Int) != (cn : Int)) = false := by simp
  have hcn2 : (cn : Int) ≤ (ws.length : Int) := by omega
  go_wp2_with fail
  refine IK.out.mono ?_
  rintro e w2 ⟨rfl, hb2⟩
  have SK2 := Lib.hid (SK w2 ((HW1.out.below hb2).more hb2.size)).out
  clear IK SK
  go_wp2_with fail
  refine SK2.out.mono ?_
  rintro e w3 ⟨rfl, rfl⟩
  have DW2 := Lib.hid (DW w2 ((HB1.out.below hb2).more hb2.size)).out
  have HO2 := Lib.hid (own_below HO1.out hb2)
  have hb02 := Lib.hid (hb1.trans (hb2.mono hb1.size))
  clear SK2 DW HB1 HW1 HO1 hb1 hb2
  go_wp2_with fail
  refine DW2.out.mono ?_
  rintro e w3 ⟨n, s, hs, rfl, hb3⟩
  have ha : Below w3.heap.size w3 (w3.alloc (.cells #[.int .i64 n, .string s] 28)) := (Below.refl _ _).alloc (Nat.le_refl _) _
  have hb34 := hb3.trans (ha.mono hb3.size)
  have HO4 := Lib.hid (own_below HO2.out hb34)
  have hb04 := Lib.hid (hb02.out.trans (hb34.mono hb02.out.size))
  have j0 : (w3.alloc (.cells #[.int .i64 n, .string s] 28)).cell? ⟨w3.heap.size, 0, none⟩ = some (.int .i64 n) := alloc_cell w3 #[.int .i64 n, .string s] 28 (0, 0) 0
  have j1 : (w3.alloc (.cells #[.int .i64 n, .string s] 28)).cell? ⟨w3.heap.size, 1, none⟩ = some (.string s) := alloc_cell w3 #[.int .i64 n, .string s] 28 (0, 0) 1
  have hl4 : w3.heap.size < (w3.alloc (.cells #[.int .i64 n, .string s] 28)).heap.size := by rw [World.size_alloc]; omega
  have IV := Lib.hid (implWordValid_any n s _ (by omega) (T.below hb04.out) (N.below hb04.out))
  have SV := fun W => Lib.hid (specWordValid_any n s W (by omega))
  have HVK := Lib.hid (fun h => valid_kind (n := n) (s := s) h)
  clear DW2 HO2 hb02 hb3 ha hb34 T N q1
  go_upto_region 8 with (fail)
  generalize w3.alloc (.cells #[.int .i64 n, .string s] 28) = w4 at *
  generalize w3.heap.size = X at *
  generalize validB n s = vv at *
  go_wp2_with fail
  refine IV.out.mono ?_
  rintro e w5 ⟨rfl, hb5⟩
  have k0 := (hb5.cell (p := ⟨X, 0, none⟩) hl4).trans j0
  have k1 := (hb5.cell (p := ⟨X, 1, none⟩) hl4).trans j1
  have hl5 := Nat.lt_of_lt_of_le hl4 hb5.size
  have HO5 := Lib.hid (own_below HO4.out hb5)
  have hb05 := Lib.hid (hb04.out.trans (hb5.mono hb04.out.size))
  clear IV hb04 hb5 j0 j1 HO4 hl4
  -- the two appends
  have hbE : Below w5.heap.size w5 (w5.alloc (.cells #[] 28)).drew := ((Below.refl _ w5).alloc (Nat.le_refl _) _).drew
  have hbR : Below w5.heap.size w5 (w5.alloc (.cells #[.int .i64 n, .string s] 28)).drew := ((Below.refl _ w5).alloc (Nat.le_refl _) _).drew
  have hbER : Below w5.heap.size w5 ((w5.alloc (.cells #[] 28)).alloc (.cells #[.int .i64 n, .string s] 28)).drew := (((Below.refl _ w5).alloc (Nat.le_refl _) _).alloc (by rw [World.size_alloc]; omega) _).drew
  have hbRE : Below w5.heap.size w5 ((w5.alloc (.cells #[.int .i64 n, .string s] 28)).alloc (.cells #[] 28)).drew := (((Below.refl _ w5).alloc (Nat.le_refl _) _).alloc (by rw [World.size_alloc]; omega) _).drew
  have e0 : (w5.alloc (.cells #[] 28)).ownsRow w5.heap.size 28 2 (.slice (some ⟨w5.heap.size, 0, none⟩) 0 0) 0 [] := empty_own w5 w5.heap.size (Nat.le_refl _)
  have EM1 := Lib.hid (show (w5.alloc (.cells #[] 28)).drew.ownsRow w5.heap.size 28 2 (.slice (some ⟨w5.heap.size, 0, none⟩) 0 0) 0 [] from e0.drew)
  have EM2 := Lib.hid (show ((w5.alloc (.cells #[] 28)).alloc (.cells #[.int .i64 n, .string s] 28)).drew.ownsRow w5.heap.size 28 2 (.slice (some ⟨w5.heap.size, 0, none⟩) 0 0) 0 [] from (own_below e0 ((Below.refl _ _).alloc (Nat.le_refl _) (.cells #[.int .i64 n, .string s] 28))).drew)
  have EM3 := Lib.hid (show ((w5.alloc (.cells #[.int .i64 n, .string s] 28)).alloc (.cells #[] 28)).drew.ownsRow w5.heap.size 28 2 (.slice (some ⟨w5.heap.size + 1, 0, none⟩) 0 0) 0 [] from by
    have h := empty_own (w5.alloc (.cells #[.int .i64 n, .string s] 28)) w5.heap.size (by rw [World.size_alloc]; omega)
    rw [World.size_alloc] at h
    exact h.drew)
  have HO6a := Lib.hid (own_below HO5.out hbE)
  have HO6b := Lib.hid (own_below HO5.out hbER)
  have HO6c := Lib.hid (own_below HO5.out hbRE)
  have HRb := Lib.hid (show ((w5.alloc (.cells #[] 28)).alloc (.cells #[.int .i64 n, .string s] 28)).drew.heap[w5.heap.size + 1]? = some (.cells #[.int .i64 n, .string s] 28 (0, 0)) from by
    have h := heap_alloc_new (w5.alloc (.cells #[] 28)) (.cells #[.int .i64 n, .string s] 28)
    rw [World.size_alloc] at h
    exact h)
  have HRc := Lib.hid (show ((w5.alloc (.cells #[.int .i64 n, .string s] 28)).alloc (.cells #[] 28)).drew.heap[w5.heap.size]? = some (.cells #[.int .i64 n, .string s] 28 (0, 0)) from
    (heap_alloc_old (w5.alloc (.cells #[.int .i64 n, .string s] 28)) (.cells #[] 28) (by rw [World.size_alloc]; omega)).trans (heap_alloc_new w5 _))
  have SZ2 := Lib.hid (show ((w5.alloc (.cells #[] 28)).alloc (.cells #[.int .i64 n, .string s] 28)).drew.heap.size = w5.heap.size + 2 ∧ ((w5.alloc (.cells #[.int .i64 n, .string s] 28)).alloc (.cells #[] 28)).drew.heap.size = w5.heap.size + 2 from ⟨by show ((w5.alloc (.cells #[] 28)).alloc (.cells #[.int .i64 n, .string s] 28)).heap.size = _; rw [World.size_alloc, World.size_alloc], by show ((w5.alloc (.cells #[.int .i64 n, .string s] 28)).alloc (.cells #[] 28)).heap.size = _; rw [World.size_alloc, World.size_alloc]⟩)
  have hn1 : 0 + ws.length ≤ 100000 := by omega
  have hn2 : 0 + ws.length + [((n, s) : Int × ByteArray)].length ≤ 100000 := by show 0 + ws.length + 1 ≤ _; omega
  have s0 : w5.drew.cell? ⟨X, 0, none⟩ = some (.int .i64 n) := k0
  have s1 : w5.drew.cell? ⟨X, 1, none⟩ = some (.string s) := k1
  have tE0 := (hbE.cell (p := ⟨X, 0, none⟩) hl5).trans k0
  have tE1 := (hbE.cell (p := ⟨X, 1, none⟩) hl5).trans k1
  have tR0 := (hbR.cell (p := ⟨X, 0, none⟩) hl5).trans k0
  have tR1 := (hbR.cell (p := ⟨X, 1, none⟩) hl5).trans k1
  have tX0 := (hbER.cell (p := ⟨X, 0, none⟩) hl5).trans k0
  have tX1 := (hbER.cell (p := ⟨X, 1, none⟩) hl5).trans k1
  have tY0 := (hbRE.cell (p := ⟨X, 0, none⟩) hl5).trans k0
  have tY1 := (hbRE.cell (p := ⟨X, 1, none⟩) hl5).trans k1
  clear e0
  go_wp2_with fail
  go_cut [10] (fun v wx => BothRel w5 n s ws v wx)
  case first =>
    go_region_law
      (first
        | ((refine step_append_words rfl _ _ rfl w5.heap.size B 0 _ _ [] ws rfl rfl EM1.out HO6a.out hn1 hbE.size ?_); intro v6 w6 hown6 hg6; have hb6 := hbE.grown hg6 hbE.size (fun k e => (EM1.out.lt k e).1); have n0 := (hb6.cell (p := ⟨X, 0, none⟩) hl5).trans k0; have n1 := (hb6.cell (p := ⟨X, 1, none⟩) hl5).trans k1; have hbz6 := hb6.size; have hal6 := hb6.alloc hb6.size (.cells #[.int .i64 n, .string s] 28); have n2 := (hal6.cell (p := ⟨X, 0, none⟩) hl5).trans k0; have n3 := (hal6.cell (p := ⟨X, 1, none⟩) hl5).trans k1)
        | ((refine step_append_words rfl _ _ rfl w5.heap.size B 0 _ _ [] ws rfl rfl EM2.out HO6b.out hn1 hbER.size ?_); intro v6 w6 hown6 hg6; have hb6 := hbER.grown hg6 hbER.size (fun k e => (EM2.out.lt k e).1); have n0 := (hb6.cell (p := ⟨X, 0, none⟩) hl5).trans k0; have n1 := (hb6.cell (p := ⟨X, 1, none⟩) hl5).trans k1; have HR6 := Lib.hid (own_of_block ((hg6.block (w5.heap.size + 1) (by rw [SZ2.out.1]; omega) (by intro e; have e : some (w5.heap.size + 1) = some w5.heap.size := e; injection e with e; omega)).trans HRb.out)); have hbz6 := hb6.size)
        | ((refine step_append_words rfl _ _ rfl w5.heap.size B 0 _ _ [] ws rfl rfl EM3.out HO6c.out hn1 hbRE.size ?_); intro v6 w6 hown6 hg6; have hb6 := hbRE.grown hg6 hbRE.size (fun k e => (EM3.out.lt k e).1); have n0 := (hb6.cell (p := ⟨X, 0, none⟩) hl5).trans k0; have n1 := (hb6.cell (p := ⟨X, 1, none⟩) hl5).trans k1; have HR6 := Lib.hid (own_of_block ((hg6.block w5.heap.size (by rw [SZ2.out.2]; omega) (by intro e; have e : some w5.heap.size = some (w5.heap.size + 1) := e; injection e with e; omega)).trans HRc.out)); have hbz6 := hb6.size)
        | ((refine step_append_words rfl _ _ rfl w5.heap.size _ (0 + ws.length) _ _ ([] ++ wordCells ws) [(n, s)] rfl rfl hown6 HR6.out hn2 hbz6 ?_); intro v7 w7 hown7 hg7; have hb7 := hb6.grown hg7 hb6.size (fun k e => (hown6.lt k e).1); have p0 := (hb7.cell (p := ⟨X, 0, none⟩) hl5).trans k0; have p1 := (hb7.cell (p := ⟨X, 1, none⟩) hl5).trans k1)
        | ((refine step_append_words rfl _ _ rfl w5.heap.size w6.heap.size (0 + ws.length) _ _ ([] ++ wordCells ws) [(n, s)] rfl rfl (hown6.alloc _) (own_of_block (heap_alloc_new _ _)) hn2 hal6.size ?_); intro v7 w7 hown7 hg7; have hb7 := hal6.grown hg7 hal6.size (fun k e => (hown6.lt k e).1); have p0 := (hb7.cell (p := ⟨X, 0, none⟩) hl5).trans k0; have p1 := (hb7.cell (p := ⟨X, 1, none⟩) hl5).trans k1))
    all_goals
      have hown8 : w7.ownsRow w5.heap.size 28 2 v7 (ws ++ [(n, s)]).length (wordCells (ws ++ [(n, s)])) := by
        rw [wordCells_append, List.length_append]
        have h := hown7
        rw [Nat.zero_add] at h
        exact h
      obtain ⟨A7, cap7, rfl, hW7⟩ := words_own hown8
      have HW7 := Lib.hid hW7
      have HB7 := Lib.hid hb7
      clear hown7 hown8 hW7 hg7 hb7 hown6 hg6 hb6 n0 n1 hbz6 EM1 EM2 EM3 HO6a HO6b HO6c HRb HRc SZ2 s0 s1 tE0 tE1 tR0 tR1 tX0 tX1 tY0 tY1 k0 k1 hbE hbR hbER hbRE HO5 hb05 hn1 hn2 SV HVK HSN p0 p1
      try clear HR6
      try clear n2 n3 hal6
      go_wp2_with fail
      go_meet
      exact ⟨A7, cap7, rfl, HW7.out, HB7.out⟩
  case rest =>
    obtain ⟨A7, cap7, rfl, hW7, hb7⟩ := hcut
    have HLEN := Lib.hid (show (ws ++ [((n, s) : Int × ByteArray)]).length = ws.length + 1 by simp)
    generalize hus : ws ++ [((n, s) : Int × ByteArray)] = us at *
    have HUS := Lib.hid hus
    clear hus
    have p0 := (hb7.cell (p := ⟨X, 0, none⟩) hl5).trans k0
    have p1 := (hb7.cell (p := ⟨X, 1, none⟩) hl5).trans k1
    have HW7 := Lib.hid hW7
    obtain ⟨w7, rfl⟩ : ∃ w7 : World, w7 = wc := ⟨_, rfl⟩
    have HB7 := Lib.hid (hb05.out.trans (hb7.mono hb05.out.size))
    have hl7 := Nat.lt_of_lt_of_le hl5 hb7.size
    clear hW7 hb7 EM1 EM2 EM3 HO6a HO6b HO6c HRb HRc SZ2 s0 s1 tE0 tE1 tR0 tR1 tX0 tX1 tY0 tY1 k0 k1 hbE hbR hbER hbRE HO5 hb05 hn1 hn2
    go_wp2_with fail
    go_loopw [11, 12] (fun a i wr => ∃ k : Nat, 1 ≤ k ∧ k ≤ 5 ∧ i = .int .i64 (k : Int) ∧ a = .int .i64 (sumN n k) ∧ Below w7.heap.size w7 wr) (fun _ i _ => 5 - (intOf i).toNat)
    case atStart => exact ⟨1, Nat.le_refl _, by omega, rfl, by unfold sumN; rw [if_neg (by omega)], Below.refl _ _⟩
    case round =>
      obtain ⟨k, hk1, hk5, rfl, rfl, hb⟩ := hrel
      have hsb := sumN_bd n k
      have r0 := (hb.cell (p := ⟨X, 0, none⟩) hl7).trans p0
      have r1 := (hb.cell (p := ⟨X, 1, none⟩) hl7).trans p1
      by_cases hlk : k < 5
      · have hal : Below wr.heap.size wr (wr.alloc (.cells #[.int .i64 n, .string s] 28)) := (Below.refl _ _).alloc (Nat.le_refl _) _
        have ONE := Lib.hid (implCountKind_any (some ⟨wr.heap.size, 0, none⟩) [(n, s)] 1 (k : Int) (wr.alloc (.cells #[.int .i64 n, .string s] 28)) (words_one n s wr.heap.size _ (by rw [World.size_alloc]; omega) (alloc_cell wr #[.int .i64 n, .string s] 28 (0, 0) 0) (alloc_cell wr #[.int .i64 n, .string s] 28 (0, 0) 1)) (by simp))
        have HST := Lib.hid (sumN_step n k hk1)
        have hc1 := cntK_one (n, s) (k : Int)
        have hcl : ([((n, s) : Int × ByteArray)]).length = 1 := rfl
        rw [hcl, hc1] at ONE
        have hbA := Lib.hid (hb.trans (hal.mono hb.size))
        clear hal hb hc1 hcl
        have hdd : (if (n, s).1 = (k : Int) then 1 else 0 : Nat) ≤ 1 := by split <;> omega
        generalize (if (n, s).1 = (k : Int) then 1 else 0 : Nat) = dd at *
        generalize hsn : sumN n k = sk at *
        have HSN2 := Lib.hid hsn
        clear hsn
        go_wp2_with fail
        refine ONE.out.mono ?_
        rintro e w8 ⟨rfl, hb8⟩
        have hbB := hbA.out.trans (hb8.mono hbA.out.size)
        clear ONE hb8 hbA
        go_wp2_with fail
        go_roundw
        case rel => exact ⟨k + 1, by omega, by omega, by go_num, by rw [HST.out], hbB⟩
        case measure => simp only [intOf]; omega
      · obtain rfl : k = 5 := by omega
        have SV9 := Lib.hid (SV wr).out
        have e9 := HSN.out n s
        rw [HUS.out] at e9
        have CB0 := fun W (hW : Words W W.heap.size A7 us) => Lib.hid (implCountKind_any A7 us cap7 kind W hW (by rw [HLEN.out]; omega))
        rw [e9] at CB0
        clear e9
        have HB9 := Lib.hid (HB7.out.trans (hb.mono HB7.out.size))
        have HW9 := Lib.hid ((HW7.out.below hb).more hb.size)
        have H5 := Lib.hid (fun h => HVK.out h)
        have qvv : (vv == vv) = true := by simp
        clear HVK SV HW7 HB7 HSN hb hsb hlk
        generalize sumN n 5 = s5 at *
        by_cases hnk : n = kind
        · have q1 : (n == kind) = true := beq_yes hnk
          rw [if_pos hnk] at CB0
          have CB2 := Lib.hid CB0
          have q2 : (((cn + 1 : Nat) : Int) == (cn : Int) + 1) = true := beq_yes (by omega)
          clear CB0 hnk
          cases vv
          · clear H5
            go_wp2_with fail
            refine SV9.out.mono ?_
            rintro e w8 ⟨rfl, hb8⟩
            have CB3 := Lib.hid ((CB2.out w8 ((HW9.out.below hb8).more hb8.size)).out)
            have HB8 := Lib.hid (HB9.out.trans (hb8.mono HB9.out.size))
            clear SV9 CB2 hb8 HB9 HW9
            go_wp2_with fail
            refine CB3.out.mono ?_
            rintro e w9 ⟨rfl, hb9⟩
            have HBf := HB8.out.trans (hb9.mono HB8.out.size)
            clear CB3 hb9 HB8
            go_wp2_with fail
            go_ret
            exact ⟨rfl, HBf⟩
          · have q5 : (s5 == 1) = true := beq_yes (H5.out rfl)
            clear H5
            go_wp2_with fail
            refine SV9.out.mono ?_
            rintro e w8 ⟨rfl, hb8⟩
            have CB3 := Lib.hid ((CB2.out w8 ((HW9.out.below hb8).more hb8.size)).out)
            have HB8 := Lib.hid (HB9.out.trans (hb8.mono HB9.out.size))
            clear SV9 CB2 hb8 HB9 HW9
            go_wp2_with fail
            refine CB3.out.mono ?_
            rintro e w9 ⟨rfl, hb9⟩
            have HBf := HB8.out.trans (hb9.mono HB8.out.size)
            clear CB3 hb9 HB8
            go_wp2_with fail
            go_ret
            exact ⟨rfl, HBf⟩
        · have q1 : (n == kind) = false := beq_no hnk
          rw [if_neg hnk, Nat.add_zero] at CB0
          have CB2 := Lib.hid CB0
          have q2 : ((cn : Int) == (cn : Int)) = true := beq_yes rfl
          clear CB0 hnk
          cases vv
          · clear H5
            go_wp2_with fail
            refine SV9.out.mono ?_
            rintro e w8 ⟨rfl, hb8⟩
            have CB3 := Lib.hid ((CB2.out w8 ((HW9.out.below hb8).more hb8.size)).out)
            have HB8 := Lib.hid (HB9.out.trans (hb8.mono HB9.out.size))
            clear SV9 CB2 hb8 HB9 HW9
            go_wp2_with fail
            refine CB3.out.mono ?_
            rintro e w9 ⟨rfl, hb9⟩
            have HBf := HB8.out.trans (hb9.mono HB8.out.size)
            clear CB3 hb9 HB8
            go_wp2_with fail
            go_ret
            exact ⟨rfl, HBf⟩
          · have q5 : (s5 == 1) = true := beq_yes (H5.out rfl)
            clear H5
            go_wp2_with fail
            refine SV9.out.mono ?_
            rintro e w8 ⟨rfl, hb8⟩
            have CB3 := Lib.hid ((CB2.out w8 ((HW9.out.below hb8).more hb8.size)).out)
            have HB8 := Lib.hid (HB9.out.trans (hb8.mono HB9.out.size))
            clear SV9 CB2 hb8 HB9 HW9
            go_wp2_with fail
            refine CB3.out.mono ?_
            rintro e w9 ⟨rfl, hb9⟩
            have HBf := HB8.out.trans (hb9.mono HB8.out.size)
            clear CB3 hb9 HB8
            go_wp2_with fail
            go_ret
            exact ⟨rfl, HBf⟩
end Go.Proofs.YtljoipgpkmdjbaaDoor
