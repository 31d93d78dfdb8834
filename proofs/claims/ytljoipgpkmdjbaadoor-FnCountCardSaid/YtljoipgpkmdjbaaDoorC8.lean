/-
  CutWords: the program cuts a text into the same words.
-/
import Derived.Test.YtljoipgpkmdjbaaDoorC7
namespace Go.Proofs.YtljoipgpkmdjbaaDoor
open Go.RowKit
set_option maxRecDepth 100000

theorem runsN_bd (s : ByteArray) : ∀ n i, ∀ t ∈ runsN s n i, 0 < t.size ∧ t.size ≤ s.size
  | 0, _, t, h => by cases h
  | n + 1, i, t, h => by
    unfold runsN at h
    by_cases hi : i < s.size
    · rw [dif_pos hi] at h
      have hb := endK_bd hi
      rcases List.mem_cons.1 h with rfl | h
      · rw [ByteArray.size_extract]; omega
      · exact runsN_bd s n _ t h
    · rw [dif_neg hi] at h; cases h
theorem runsN_len (s : ByteArray) : ∀ n i, (runsN s n i).length ≤ n
  | 0, _ => Nat.le_refl _
  | n + 1, i => by
    unfold runsN
    split
    · have := runsN_len s n (endK s i (by assumption)); simp; omega
    · simp
theorem runsF_bd {s : ByteArray} {i : Nat} : ∀ t ∈ runsF s i, 0 < t.size ∧ t.size ≤ s.size := runsN_bd s _ i
theorem runsF_len (s : ByteArray) : (runsF s 0).length ≤ s.size := runsN_len s _ 0
/-- Behind words acc, from run n on. -/
def procAt (l : List ByteArray) (n : Nat) (acc : List (Int × ByteArray)) : Prop := procR l = (procR (l.drop n)).map (acc ++ ·)
theorem procAt_gap {l : List ByteArray} {n : Nat} {acc : List (Int × ByteArray)} (h : procAt l n acc) (hn : n < l.length) (hk : runKind l[n] = 5) : procAt l (n + 1) acc := by
  unfold procAt at h ⊢
  rw [h, List.drop_eq_getElem_cons hn]
  congr 1
  show (if runKind l[n] = 5 then _ else _) = _
  rw [if_pos hk]
theorem procAt_word {l : List ByteArray} {n : Nat} {acc : List (Int × ByteArray)} (h : procAt l n acc) (hn : n < l.length) (hk : runKind l[n] ≠ 5) (hv : validB (runKind l[n]) l[n] = true) : procAt l (n + 1) (acc ++ [(runKind l[n], l[n])]) := by
  unfold procAt at h ⊢
  have e : procR (l[n] :: l.drop (n + 1)) = (procR (l.drop (n + 1))).map ((runKind l[n], l[n]) :: ·) := by
    show (if runKind l[n] = 5 then _ else if validB (runKind l[n]) l[n] = true then _ else none) = _
    rw [if_neg hk, if_pos hv]
  rw [h, List.drop_eq_getElem_cons hn, e]
  cases procR (l.drop (n + 1)) <;> simp
theorem procAt_bad {l : List ByteArray} {n : Nat} {acc : List (Int × ByteArray)} (h : procAt l n acc) (hn : n < l.length) (hk : runKind l[n] ≠ 5) (hv : validB (runKind l[n]) l[n] = false) : procR l = none := by
  unfold procAt at h
  have e : procR (l[n] :: l.drop (n + 1)) = none := by
    show (if runKind l[n] = 5 then _ else if validB (runKind l[n]) l[n] = true then _ else none) = _
    rw [if_neg hk, if_neg (by rw [hv]; simp)]
  rw [h, List.drop_eq_getElem_cons hn, e]
  rfl
theorem procAt_end {l : List ByteArray} {acc : List (Int × ByteArray)} (h : procAt l l.length acc) : procR l = some acc := by
  unfold procAt at h
  rw [h, List.drop_of_length_le (Nat.le_refl _)]
  simp [procR]
theorem procAt_many {l : List ByteArray} {n : Nat} {acc : List (Int × ByteArray)} (h : procAt l n acc) (hm : 600 < acc.length) : ∀ ws, procR l = some ws → 600 < ws.length := by
  intro ws hw
  unfold procAt at h
  rw [h] at hw
  obtain ⟨x, _, rfl⟩ := Option.map_eq_some_iff.1 hw
  simp; omega
theorem ownsRow_base {w : World} {base base' e size n : Nat} {v : Value} {xs : List Value} (h : w.ownsRow base e size v n xs) (hb : base' ≤ base) : w.ownsRow base' e size v n xs := by
  refine ⟨h.1, ?_⟩
  rcases h.2 with h' | ⟨g, cap, cur, h1, h2, h3⟩
  · exact .inl h'
  · exact .inr ⟨g, cap, cur, h1, by omega, h3⟩
theorem strs_own {w : World} {base e : Nat} {l : List ByteArray} {v : Value} (h : w.ownsRow base e 1 v l.length (strCells l)) : ∃ A cap, v = .slice A l.length cap ∧ Strs w w.heap.size A l := by
  rcases h.2 with ⟨rfl, h0⟩ | ⟨g, cap, cur, rfl, _⟩
  · exact ⟨none, 0, by rw [h0], fun hne => absurd (List.length_eq_zero_iff.1 h0) hne⟩
  · exact ⟨_, cap, rfl, strs_of_own h rfl (fun k hk => by unfold strCells; rw [List.getElem?_map, List.getElem?_eq_getElem hk]; rfl)⟩
theorem cut_runs (s : ByteArray) : procR (runsF s 0) = cutF s 0 := runs_cut s _ 0 (Nat.le_refl _)
theorem nil_own (w : World) (base : Nat) : w.ownsRow base 28 2 (.slice none 0 0) 0 [] := ⟨rfl, .inl ⟨rfl, rfl⟩⟩

set_option maxHeartbeats 4000000 in
theorem implCutWords_any (s : ByteArray) (w : World) (hs : s.size ≤ 1048576) (T : Tabs w) (N : NTabs w) :
    Calls Tryd.prog 17 #[.string s] w (CutRet (cutRes s) w) := by
  obtain ⟨i0, hi, hz0, hz1, hz2⟩ := info_parts wordInfo
  by_cases hlong : 3000 < s.size
  · rw [cutRes_long hlong]
    go_enter Tryd.func17, Tryd.ntmps17
    go_wp2
    go_ret2
    exact ⟨⟨_, rfl, nil_own _ _⟩, Below.refl _ _⟩
  have hle : s.size ≤ 3000 := by omega
  clear hlong hs
  have CR := Lib.hid (cutRuns_any s w hle T)
  have HCUT := Lib.hid (cut_runs s)
  have hbd := fun t h => runsF_bd (s := s) (i := 0) t h
  have HBD := Lib.hid hbd
  have hll := runsF_len s
  clear hbd
  generalize runsF s 0 = l at *
  go_enter Tryd.func17, Tryd.ntmps17
  go_wp2_with fail
  refine CR.out.mono ?_
  rintro e w1 ⟨⟨vr, rfl, hownr⟩, hb1⟩
  clear CR
  obtain ⟨A, capr, rfl, hS⟩ := strs_own hownr
  clear hownr
  have hbs1 := hb1.size
  go_wp2
  go_loopw [4, 14] (fun v i wr => ∃ (n : Nat) (acc : List (Int × ByteArray)), n ≤ l.length ∧ i = .int .i64 n ∧ procAt l n acc ∧ acc.length ≤ 600 ∧ wr.ownsRow w1.heap.size 28 2 v acc.length (wordCells acc) ∧ Below w1.heap.size w1 wr) (fun _ i _ => l.length - (intOf i).toNat)
  case atStart => exact ⟨0, [], Nat.zero_le _, rfl, by unfold procAt; simp, by simp, nil_own _ _, Below.refl _ _⟩
  case round =>
    obtain ⟨n, acc, hn, rfl, hat, hacc, hown, hb⟩ := hrel
    have HAT := Lib.hid hat
    have HO := Lib.hid hown
    clear hat hown
    obtain ⟨Aw, capw, rfl⟩ := own_slice HO.out
    have hb0 := hb1.trans (hb.mono hbs1)
    by_cases hlt : n < l.length
    · obtain ⟨b, o, rfl, hB, hc1⟩ := (hS.below hb).at_ hlt
      obtain ⟨t0, t1⟩ := HBD.out _ (List.getElem_mem hlt)
      have t2 : l[n].size ≤ 1048576 := by omega
      have WO := Lib.hid (wordOf_any l[n] wr t0 (T.below hb0))
      have VW := fun W h1 h2 => Lib.hid (implWordValid_any (runKind l[n]) l[n] W t2 h1 h2)
      by_cases h5 : runKind l[n] = 5
      · have HN := Lib.hid (procAt_gap HAT.out hlt h5)
        rw [h5] at WO
        clear h5 VW t0 t1 t2
        generalize l[n] = t at *
        go_wp2_with fail
        refine WO.out.mono ?_
        rintro e w2 ⟨rfl, hb2⟩
        have HO2 := Lib.hid (HO.out.kept (w' := w2) (row := none) ⟨hb2.os, hb2.tape, hb2.output, hb2.size, fun i hi _ => hb2.block i hi⟩ (Classical.em _))
        have hb3 := hb.trans (hb2.mono hb.size)
        have hb4 := hb3.alloc hb3.size (.cells #[.int .i64 5, .string t] 28)
        clear hb hb0 hb2 hb3
        go_wp2
        go_roundw
        case rel => exact ⟨n + 1, acc, by omega, by go_num, HN.out, hacc, HO2.out.alloc _, hb4⟩
        case measure => simp only [intOf]; omega
      · have b5 : (runKind l[n] == 5) = false := by rw [beq_eq_false_iff_ne]; exact h5
        cases hv : validB (runKind l[n]) l[n]
        · have HR := Lib.hid (cutRes_none (by rw [← HCUT.out]; exact procAt_bad HAT.out hlt h5 hv))
          rw [hv] at VW
          clear h5 hv t0 t1 t2
          generalize runKind l[n] = kd at *
          generalize l[n] = t at *
          go_wp2_with fail
          refine WO.out.mono ?_
          rintro e w2 ⟨rfl, hb2⟩
          have hb3 := hb0.trans (hb2.mono hb0.size)
          have hb4 := hb3.alloc hb3.size (.cells #[.int .i64 kd, .string t] 28)
          have V2 := Lib.hid (VW _ (T.below hb4) (N.below hb4)).out
          clear VW hb hb0 hb2 hb3
          go_wp2_with fail
          refine V2.out.mono ?_
          rintro e w3 ⟨rfl, hb5⟩
          have hb6 := hb4.trans (hb5.mono hb4.size)
          clear hb4 hb5 V2
          go_wp2
          go_ret2
          rw [HR.out]
          exact ⟨⟨_, rfl, nil_own _ _⟩, hb6⟩
        · have HN := Lib.hid (procAt_word HAT.out hlt h5 hv)
          rw [hv] at VW
          clear h5 hv t0 t1 t2
          generalize runKind l[n] = kd at *
          generalize l[n] = t at *
          by_cases hfull : acc.length = 600
          · have HR := Lib.hid (cutRes_many (s := s) (by rw [← HCUT.out]; exact procAt_many HN.out (by simp; omega)))
            have b6 : ((acc.length : Int) == 600) = true := by rw [beq_iff_eq]; omega
            clear hfull
            go_wp2_with fail
            refine WO.out.mono ?_
            rintro e w2 ⟨rfl, hb2⟩
            have hb3 := hb0.trans (hb2.mono hb0.size)
            have hb4 := hb3.alloc hb3.size (.cells #[.int .i64 kd, .string t] 28)
            have V2 := Lib.hid (VW _ (T.below hb4) (N.below hb4)).out
            clear VW hb hb0 hb2 hb3
            go_wp2_with fail
            refine V2.out.mono ?_
            rintro e w3 ⟨rfl, hb5⟩
            have hb6 := hb4.trans (hb5.mono hb4.size)
            clear hb4 hb5 V2
            go_wp2
            go_ret2
            rw [HR.out]
            exact ⟨⟨_, rfl, nil_own _ _⟩, hb6⟩
          · have b6 : ((acc.length : Int) == 600) = false := by rw [beq_eq_false_iff_ne]; omega
            have hacc' : acc.length < 600 := by omega
            clear hfull
            go_wp2_with fail
            refine WO.out.mono ?_
            rintro e w2 ⟨rfl, hb2⟩
            have HO2 := HO.out.kept (w' := w2) (row := none) ⟨hb2.os, hb2.tape, hb2.output, hb2.size, fun i hi _ => hb2.block i hi⟩ (Classical.em _)
            have HO3 := Lib.hid (HO2.alloc (.cells #[.int .i64 kd, .string t] 28))
            have hb3 := hb0.trans (hb2.mono hb0.size)
            have hb4 := hb3.alloc hb3.size (.cells #[.int .i64 kd, .string t] 28)
            have hc3 := hb.trans (hb2.mono hb.size)
            have hc4 := hc3.alloc hc3.size (.cells #[.int .i64 kd, .string t] 28)
            have V2 := Lib.hid (VW _ (T.below hb4) (N.below hb4)).out
            clear VW hb hb0 hb2 hb3 hc3 HO2
            go_wp2_with fail
            refine V2.out.mono ?_
            rintro e w3 ⟨rfl, hb5⟩
            obtain ⟨q0, q1, _, _⟩ := own_cells hb5
            have HO4 := Lib.hid (HO3.out.kept (w' := w3) (row := none) ⟨hb5.os, hb5.tape, hb5.output, hb5.size, fun i hi _ => hb5.block i hi⟩ (Classical.em _))
            have hc5 := hc4.trans (hb5.mono hc4.size)
            have HNW := Lib.hid (new_word w3 kd t)
            have HTO := Lib.hid (wordOne kd t)
            have hc6 := hc5.alloc hc5.size (.cells #[.int .i64 kd, .string t] 28)
            have hbz : w1.heap.size ≤ (w3.alloc (.cells #[.int .i64 kd, .string t] 28)).heap.size := hc6.size
            clear hb4 hb5 V2 hc4 hc5
            go_wp2_with (at_builtin; refine wpList_append_own _ rfl _ _ 23 rfl w1.heap.size 28 i0 (.agg #[.int .i64 0, .string ⟨#[]⟩]) 2 24 Tryd.underlying23 hi hz0 hz1 hz2 rfl (by decide) _ acc.length (wordCells acc) rfl (HO4.out.alloc _) ⟨w3.heap.size, 0, none⟩ 1 1 [.int .i64 kd, .string t] rfl rfl HNW.out HTO.out (by unfold maxLen; omega) (by omega) hbz ?_; intro v' w5 hown5 hgrow5 _)
            have hc8 := hc6.grown hgrow5 hbz (fun k e => ((HO4.out.alloc (.cells #[.int .i64 kd, .string t] 28)).lt k e).1)
            have HO5 := Lib.hid hown5
            clear hc6 hgrow5 hown5
            go_wp2
            go_roundw
            case rel => exact ⟨n + 1, acc ++ [(kd, t)], by omega, by go_num, HN.out, by simp; omega, by rw [wordCells_snoc, List.length_append]; exact HO5.out, hc8⟩
            case measure => simp only [intOf]; omega
    · obtain rfl : n = l.length := by omega
      have HR := Lib.hid (cutRes_yes hle (by rw [← HCUT.out]; exact procAt_end HAT.out) hacc)
      go_wp2
      go_ret2
      rw [HR.out]
      exact ⟨⟨_, rfl, ownsRow_base HO.out hbs1⟩, hb0⟩
end Go.Proofs.YtljoipgpkmdjbaaDoor
