/-
  Plain mathematics of chapter 1's laws: a joined text is cut into the same words; two texts with a blank between; blanks around and line feeds.
-/
import Derived.Test.YtljdbjfbcjigaaaGreatDoorMg4
import Derived.Test.YtljdbjfbcjigaaaGreatDoorMg6
namespace Go.Proofs.YtljdbjfbcjigaaaGreatDoor
open Go.RowKit
set_option maxRecDepth 100000

theorem runsN_bd (s : ByteArray) : ∀ n i, ∀ t ∈ runsN s n i, 0 < t.size ∧ t.size ≤ s.size
  | 0, _, t, h => by cases h
  | n + 1, i, t, h => by
    unfold runsN at h
    by_cases hi : i < s.size
    · rw [dif_pos hi] at h
      have hb := endK_bd hi
      rcases List.mem_cons.1 h with rfl | h
      · rw [ByteArray.size_extract]; omega
      · exact runsN_bd s n _ t h
    · rw [dif_neg hi] at h; cases h
theorem runsN_len (s : ByteArray) : ∀ n i, (runsN s n i).length ≤ n
  | 0, _ => Nat.le_refl _
  | n + 1, i => by
    unfold runsN
    split
    · have := runsN_len s n (endK s i (by assumption)); simp; omega
    · simp
theorem runsF_bd {s : ByteArray} {i : Nat} : ∀ t ∈ runsF s i, 0 < t.size ∧ t.size ≤ s.size := runsN_bd s _ i
theorem runsF_len (s : ByteArray) : (runsF s 0).length ≤ s.size := runsN_len s _ 0
/-- Behind words acc, from run n on. -/
def procAt (l : List ByteArray) (n : Nat) (acc : List (Int × ByteArray)) : Prop := procR l = (procR (l.drop n)).map (acc ++ ·)
theorem procAt_gap {l : List ByteArray} {n : Nat} {acc : List (Int × ByteArray)} (h : procAt l n acc) (hn : n < l.length) (hk : runKind l[n] = 5) : procAt l (n + 1) acc := by
  unfold procAt at h ⊢
  rw [h, List.drop_eq_getElem_cons hn]
  congr 1
  show (if runKind l[n] = 5 then _ else _) = _
  rw [if_pos hk]
theorem procAt_word {l : List ByteArray} {n : Nat} {acc : List (Int × ByteArray)} (h : procAt l n acc) (hn : n < l.length) (hk : runKind l[n] ≠ 5) (hv : validB (runKind l[n]) l[n] = true) : procAt l (n + 1) (acc ++ [(runKind l[n], l[n])]) := by
  unfold procAt at h ⊢
  have e : procR (l[n] :: l.drop (n + 1)) = (procR (l.drop (n + 1))).map ((runKind l[n], l[n]) :: ·) := by
    show (if runKind l[n] = 5 then _ else if validB (runKind l[n]) l[n] = true then _ else none) = _
    rw [if_neg hk, if_pos hv]
  rw [h, List.drop_eq_getElem_cons hn, e]
  cases procR (l.drop (n + 1)) <;> simp
theorem procAt_bad {l : List ByteArray} {n : Nat} {acc : List (Int × ByteArray)} (h : procAt l n acc) (hn : n < l.length) (hk : runKind l[n] ≠ 5) (hv : validB (runKind l[n]) l[n] = false) : procR l = none := by
  unfold procAt at h
  have e : procR (l[n] :: l.drop (n + 1)) = none := by
    show (if runKind l[n] = 5 then _ else if validB (runKind l[n]) l[n] = true then _ else none) = _
    rw [if_neg hk, if_neg (by rw [hv]; simp)]
  rw [h, List.drop_eq_getElem_cons hn, e]
  rfl
theorem procAt_end {l : List ByteArray} {acc : List (Int × ByteArray)} (h : procAt l l.length acc) : procR l = some acc := by
  unfold procAt at h
  rw [h, List.drop_of_length_le (Nat.le_refl _)]
  simp [procR]
theorem procAt_many {l : List ByteArray} {n : Nat} {acc : List (Int × ByteArray)} (h : procAt l n acc) (hm : 600 < acc.length) : ∀ ws, procR l = some ws → 600 < ws.length := by
  intro ws hw
  unfold procAt at h
  rw [h] at hw
  obtain ⟨x, _, rfl⟩ := Option.map_eq_some_iff.1 hw
  simp; omega
theorem ownsRow_base {w : World} {base base' e size n : Nat} {v : Value} {xs : List Value} (h : w.ownsRow base e size v n xs) (hb : base' ≤ base) : w.ownsRow base' e size v n xs := by
  refine ⟨h.1, ?_⟩
  rcases h.2 with h' | ⟨g, cap, cur, h1, h2, h3⟩
  · exact .inl h'
  · exact .inr ⟨g, cap, cur, h1, by omega, h3⟩
theorem strs_own {w : World} {base e : Nat} {l : List ByteArray} {v : Value} (h : w.ownsRow base e 1 v l.length (strCells l)) : ∃ A cap, v = .slice A l.length cap ∧ Strs w w.heap.size A l := by
  rcases h.2 with ⟨rfl, h0⟩ | ⟨g, cap, cur, rfl, _⟩
  · exact ⟨none, 0, by rw [h0], fun hne => absurd (List.length_eq_zero_iff.1 h0) hne⟩
  · exact ⟨_, cap, rfl, strs_of_own h rfl (fun k hk => by unfold strCells; rw [List.getElem?_map, List.getElem?_eq_getElem hk]; rfl)⟩
theorem cut_runs (s : ByteArray) : procR (runsF s 0) = cutF s 0 := runs_cut s _ 0 (Nat.le_refl _)
theorem nil_own (w : World) (base : Nat) : w.ownsRow base 138 2 (.slice none 0 0) 0 [] := ⟨rfl, .inl ⟨rfl, rfl⟩⟩

set_option maxHeartbeats 4000000 in
theorem implCutWords_any (s : ByteArray) (w : World) (hs : s.size ≤ 1048576) (T : Tabs w) (N : NTabs w) :
    Calls Tryz.prog 69 #[.string s] w (CutRet (cutRes s) w) := by
  obtain ⟨i0, hi, hz0, hz1, hz2⟩ := info_parts wordInfo
  by_cases hlong : 3000 < s.size
  · rw [cutRes_long hlong]
    go_enter Tryz.func69, Tryz.ntmps69
    go_wp2
    go_ret2
    exact ⟨⟨_, rfl, nil_own _ _⟩, Below.refl _ _⟩
  have hle : s.size ≤ 3000 := by omega
  clear hlong hs
  have CR := Lib.hid (cutRuns_any s w hle T)
  have HCUT := Lib.hid (cut_runs s)
  have hbd := fun t h => runsF_bd (s := s) (i := 0) t h
  have HBD := Lib.hid hbd
  have hll := runsF_len s
  clear hbd
  generalize runsF s 0 = l at *
  go_enter Tryz.func69, Tryz.ntmps69
  go_wp2_with fail
  refine CR.out.mono ?_
  rintro e w1 ⟨⟨vr, rfl, hownr⟩, hb1⟩
  clear CR
  obtain ⟨A, capr, rfl, hS⟩ := strs_own hownr
  clear hownr
  have hbs1 := hb1.size
  go_wp2
  go_loopw [4, 14] (fun v i wr => ∃ (n : Nat) (acc : List (Int × ByteArray)), n ≤ l.length ∧ i = .int .i64 n ∧ procAt l n acc ∧ acc.length ≤ 600 ∧ wr.ownsRow w1.heap.size 138 2 v acc.length (wordCells acc) ∧ Below w1.heap.size w1 wr) (fun _ i _ => l.length - (intOf i).toNat)
  case atStart => exact ⟨0, [], Nat.zero_le _, rfl, by unfold procAt; simp, by simp, nil_own _ _, Below.refl _ _⟩
  case round =>
    obtain ⟨n, acc, hn, rfl, hat, hacc, hown, hb⟩ := hrel
    have HAT := Lib.hid hat
    have HO := Lib.hid hown
    clear hat hown
    obtain ⟨Aw, capw, rfl⟩ := own_slice HO.out
    have hb0 := hb1.trans (hb.mono hbs1)
    by_cases hlt : n < l.length
    · obtain ⟨b, o, rfl, hB, hc1⟩ := (hS.below hb).at_ hlt
      obtain ⟨t0, t1⟩ := HBD.out _ (List.getElem_mem hlt)
      have t2 : l[n].size ≤ 1048576 := by omega
      have WO := Lib.hid (wordOf_any l[n] wr t0 (T.below hb0))
      have VW := fun W h1 h2 => Lib.hid (implWordValid_any (runKind l[n]) l[n] W t2 h1 h2)
      by_cases h5 : runKind l[n] = 5
      · have HN := Lib.hid (procAt_gap HAT.out hlt h5)
        rw [h5] at WO
        clear h5 VW t0 t1 t2
        generalize l[n] = t at *
        go_wp2_with fail
        refine WO.out.mono ?_
        rintro e w2 ⟨rfl, hb2⟩
        have HO2 := Lib.hid (HO.out.kept (w' := w2) (row := none) ⟨hb2.os, hb2.tape, hb2.output, hb2.size, fun i hi _ => hb2.block i hi⟩ (Classical.em _))
        have hb3 := hb.trans (hb2.mono hb.size)
        have hb4 := hb3.alloc hb3.size (.cells #[.int .i64 5, .string t] 138)
        clear hb hb0 hb2 hb3
        go_wp2
        go_roundw
        case rel => exact ⟨n + 1, acc, by omega, by go_num, HN.out, hacc, HO2.out.alloc _, hb4⟩
        case measure => simp only [intOf]; omega
      · have b5 : (runKind l[n] == 5) = false := by rw [beq_eq_false_iff_ne]; exact h5
        cases hv : validB (runKind l[n]) l[n]
        · have HR := Lib.hid (cutRes_none (by rw [← HCUT.out]; exact procAt_bad HAT.out hlt h5 hv))
          rw [hv] at VW
          clear h5 hv t0 t1 t2
          generalize runKind l[n] = kd at *
          generalize l[n] = t at *
          go_wp2_with fail
          refine WO.out.mono ?_
          rintro e w2 ⟨rfl, hb2⟩
          have hb3 := hb0.trans (hb2.mono hb0.size)
          have hb4 := hb3.alloc hb3.size (.cells #[.int .i64 kd, .string t] 138)
          have V2 := Lib.hid (VW _ (T.below hb4) (N.below hb4)).out
          clear VW hb hb0 hb2 hb3
          go_wp2_with fail
          refine V2.out.mono ?_
          rintro e w3 ⟨rfl, hb5⟩
          have hb6 := hb4.trans (hb5.mono hb4.size)
          clear hb4 hb5 V2
          go_wp2
          go_ret2
          rw [HR.out]
          exact ⟨⟨_, rfl, nil_own _ _⟩, hb6⟩
        · have HN := Lib.hid (procAt_word HAT.out hlt h5 hv)
          rw [hv] at VW
          clear h5 hv t0 t1 t2
          generalize runKind l[n] = kd at *
          generalize l[n] = t at *
          by_cases hfull : acc.length = 600
          · have HR := Lib.hid (cutRes_many (s := s) (by rw [← HCUT.out]; exact procAt_many HN.out (by simp; omega)))
            have b6 : ((acc.length : Int) == 600) = true := by rw [beq_iff_eq]; omega
            clear hfull
            go_wp2_with fail
            refine WO.out.mono ?_
            rintro e w2 ⟨rfl, hb2⟩
            have hb3 := hb0.trans (hb2.mono hb0.size)
            have hb4 := hb3.alloc hb3.size (.cells #[.int .i64 kd, .string t] 138)
            have V2 := Lib.hid (VW _ (T.below hb4) (N.below hb4)).out
            clear VW hb hb0 hb2 hb3
            go_wp2_with fail
            refine V2.out.mono ?_
            rintro e w3 ⟨rfl, hb5⟩
            have hb6 := hb4.trans (hb5.mono hb4.size)
            clear hb4 hb5 V2
            go_wp2
            go_ret2
            rw [HR.out]
            exact ⟨⟨_, rfl, nil_own _ _⟩, hb6⟩
          · have b6 : ((acc.length : Int) == 600) = false := by rw [beq_eq_false_iff_ne]; omega
            have hacc' : acc.length < 600 := by omega
            clear hfull
            go_wp2_with fail
            refine WO.out.mono ?_
            rintro e w2 ⟨rfl, hb2⟩
            have HO2 := HO.out.kept (w' := w2) (row := none) ⟨hb2.os, hb2.tape, hb2.output, hb2.size, fun i hi _ => hb2.block i hi⟩ (Classical.em _)
            have HO3 := Lib.hid (HO2.alloc (.cells #[.int .i64 kd, .string t] 138))
            have hb3 := hb0.trans (hb2.mono hb0.size)
            have hb4 := hb3.alloc hb3.size (.cells #[.int .i64 kd, .string t] 138)
            have hc3 := hb.trans (hb2.mono hb.size)
            have hc4 := hc3.alloc hc3.size (.cells #[.int .i64 kd, .string t] 138)
            have V2 := Lib.hid (VW _ (T.below hb4) (N.below hb4)).out
            clear VW hb hb0 hb2 hb3 hc3 HO2
            go_wp2_with fail
            refine V2.out.mono ?_
            rintro e w3 ⟨rfl, hb5⟩
            obtain ⟨q0, q1, _, _⟩ := own_cells hb5
            have HO4 := Lib.hid (HO3.out.kept (w' := w3) (row := none) ⟨hb5.os, hb5.tape, hb5.output, hb5.size, fun i hi _ => hb5.block i hi⟩ (Classical.em _))
            have hc5 := hc4.trans (hb5.mono hc4.size)
            have HNW := Lib.hid (new_word w3 kd t)
            have HTO := Lib.hid (wordOne kd t)
            have hc6 := hc5.alloc hc5.size (.cells #[.int .i64 kd, .string t] 138)
            have hbz : w1.heap.size ≤ (w3.alloc (.cells #[.int .i64 kd, .string t] 138)).heap.size := hc6.size
            clear hb4 hb5 V2 hc4 hc5
            go_wp2_with (at_builtin; refine wpList_append_own _ rfl _ _ 88 rfl w1.heap.size 138 i0 (.agg #[.int .i64 0, .string ⟨#[]⟩]) 2 24 Tryz.underlying88 hi hz0 hz1 hz2 rfl (by decide) _ acc.length (wordCells acc) rfl (HO4.out.alloc _) ⟨w3.heap.size, 0, none⟩ 1 1 [.int .i64 kd, .string t] rfl rfl HNW.out HTO.out (by unfold maxLen; omega) (by omega) hbz ?_; intro v' w5 hown5 hgrow5 _)
            have hc8 := hc6.grown hgrow5 hbz (fun k e => ((HO4.out.alloc (.cells #[.int .i64 kd, .string t] 138)).lt k e).1)
            have HO5 := Lib.hid hown5
            clear hc6 hgrow5 hown5
            go_wp2
            go_roundw
            case rel => exact ⟨n + 1, acc ++ [(kd, t)], by omega, by go_num, HN.out, by simp; omega, by rw [wordCells_snoc, List.length_append]; exact HO5.out, hc8⟩
            case measure => simp only [intOf]; omega
    · obtain rfl : n = l.length := by omega
      have HR := Lib.hid (cutRes_yes hle (by rw [← HCUT.out]; exact procAt_end HAT.out) hacc)
      go_wp2
      go_ret2
      rw [HR.out]
      exact ⟨⟨_, rfl, ownsRow_base HO.out hbs1⟩, hb0⟩
end Go.Proofs.YtljdbjfbcjigaaaGreatDoor

namespace Go.Proofs.YtljdbjfbcjigaaaGreatDoor
open Go.RowKit
set_option maxRecDepth 100000

def marked (xs : List Value) (k0 k : Nat) : Prop := ∀ j, j < k → xs[j * 2]? = some (.int .i64 ((k0 + j * 2 : Nat) : Int)) ∧ xs[j * 2 + 1]? = some (.string (markB (k0 + j * 2 + 1)))
theorem marked_succ {xs : List Value} {k0 k n : Nat} (h : marked xs k0 k) (hl : xs.length = n * 2) (hk : k < n) :
    marked ((xs.set (k * 2) (.int .i64 ((k0 + k * 2 : Nat) : Int))).set (k * 2 + 1) (.string (markB (k0 + k * 2 + 1)))) k0 (k + 1) := by
  intro j hj
  simp only [List.getElem?_set, List.length_set]
  by_cases e : j = k
  · subst e
    refine ⟨?_, ?_⟩
    · rw [if_neg (by omega), if_pos rfl, if_pos (by omega)]
    · rw [if_pos rfl, if_pos (by omega)]
  · have := h j (by omega)
    refine ⟨?_, ?_⟩
    · rw [if_neg (by omega), if_neg (by omega)]; exact this.1
    · rw [if_neg (by omega), if_neg (by omega)]; exact this.2
def MarkWRet (base e n k0 : Nat) (v : Value) (w : World) (en : Ending) (w' : World) : Prop :=
  en = .returned (.int .i64 ((k0 + n * 2 : Nat) : Int)) ∧ (∃ xs', w'.ownsRow base e 2 v n xs' ∧ marked xs' k0 n) ∧ Below base w w'


end Go.Proofs.YtljdbjfbcjigaaaGreatDoor

namespace Go.Proofs.YtljdbjfbcjigaaaGreatDoor
open Go.RowKit
set_option maxRecDepth 100000

theorem words_own {w : World} {base e : Nat} {ws : List (Int × ByteArray)} {v : Value} (h : w.ownsRow base e 2 v ws.length (wordCells ws)) : ∃ A cap, v = .slice A ws.length cap ∧ Words w w.heap.size A ws := by
  rcases h.2 with ⟨rfl, h0⟩ | ⟨g, cap, cur, rfl, _⟩
  · exact ⟨none, 0, by rw [h0], fun hne => absurd (List.length_eq_zero_iff.1 h0) hne⟩
  · exact ⟨_, cap, rfl, Words.of_own h⟩
theorem cutRes_len (s : ByteArray) : (cutRes s).1.length ≤ 600 := by
  unfold cutRes
  split
  · simp
  · split
    · split
      · assumption
      · simp
    · simp
theorem words_self (ws : List (Int × ByteArray)) : decide (ws = ws) = true := by simp
theorem own_below {w w' : World} {base e size n : Nat} {v : Value} {xs : List Value} (h : w.ownsRow base e size v n xs) (hb : Below w.heap.size w w') : w'.ownsRow base e size v n xs :=
  h.kept (row := none) ⟨hb.os, hb.tape, hb.output, hb.size, fun i hi _ => hb.block i hi⟩ (Classical.em _)

end Go.Proofs.YtljdbjfbcjigaaaGreatDoor

namespace Go.Proofs.YtljdbjfbcjigaaaGreatDoor
open Go.RowKit
set_option maxRecDepth 100000

theorem procR_valid : ∀ (l : List ByteArray) (ws : List (Int × ByteArray)), procR l = some ws → ∀ x ∈ ws, validB x.1 x.2 = true
  | [], ws, h, x, hx => by
    have : ws = [] := (Option.some.inj h).symm
    subst this; cases hx
  | t :: r, ws, h, x, hx => by
    have e : procR (t :: r) = if runKind t = 5 then procR r else if validB (runKind t) t = true then (procR r).map ((runKind t, t) :: ·) else none := rfl
    rw [e] at h
    split at h
    · exact procR_valid r ws h x hx
    · split at h
      · rename_i hv
        obtain ⟨y, hy, rfl⟩ := Option.map_eq_some_iff.1 h
        rcases List.mem_cons.1 hx with rfl | hx
        · exact hv
        · exact procR_valid r y hy x hx
      · cases h
theorem cutRes_valid (s : ByteArray) : ∀ x ∈ (cutRes s).1, validB x.1 x.2 = true := by
  intro x hx
  unfold cutRes at hx
  split at hx
  · cases hx
  · split at hx
    · rename_i ws hc
      split at hx
      · exact procR_valid _ ws (by rw [cut_runs]; exact hc) x hx
      · cases hx
    · cases hx
/-- What PlainText returns. -/
noncomputable def plainF (s : ByteArray) : ByteArray × Bool := if (cutRes s).2 = true then joinF (cutRes s).1 else (⟨#[]⟩, false)

set_option maxHeartbeats 1000000 in
theorem specPlainText_any (s : ByteArray) (w : World) (hs : s.size ≤ 1048576) :
    Calls Tryz.prog 74 #[.string s] w (TextRet (plainF s) w) := by
  have SC := Lib.hid (specCutWords_any s w hs)
  have hlen := cutRes_len s
  have HV := Lib.hid (cutRes_valid s)
  unfold plainF
  generalize cutRes s = p at *
  obtain ⟨ws, ok⟩ := p
  have hlen' : ws.length ≤ 600 := hlen
  clear hlen
  cases ok
  · go_enter Tryz.func74, Tryz.ntmps74
    go_wp2_with fail
    refine SC.out.mono ?_
    rintro e w1 ⟨⟨v0, rfl, hO1⟩, hb1⟩
    clear SC hO1
    go_wp2
    go_ret2
    exact ⟨rfl, hb1⟩
  · go_enter Tryz.func74, Tryz.ntmps74
    go_wp2_with fail
    refine SC.out.mono ?_
    rintro e w1 ⟨⟨v0, rfl, hO1⟩, hb1⟩
    obtain ⟨A0, cap0, rfl, hW1⟩ := words_own hO1
    have SJ := Lib.hid (specJoinWords_any A0 ws cap0 w1 hW1 (fun x hx => by have := validB_size (HV.out x hx); omega) (by omega))
    have e1 : (if (ws, true).2 = true then joinF (ws, true).1 else (⟨#[]⟩, false)) = joinF ws := rfl
    have HE := Lib.hid e1
    clear e1 SC hO1 hW1
    generalize joinF ws = q at *
    obtain ⟨tx, fl⟩ := q
    go_wp2_with fail
    refine SJ.out.mono ?_
    rintro e w2 ⟨rfl, hb2⟩
    have hb3 := hb1.trans (hb2.mono hb1.size)
    clear hb1 hb2 SJ
    go_wp2
    go_ret2
    exact ⟨rfl, hb3⟩

end Go.Proofs.YtljdbjfbcjigaaaGreatDoor

namespace Go.Proofs.YtljdbjfbcjigaaaGreatDoor
open Go.RowKit

theorem cutRes_inv {s : ByteArray} {ws : List (Int × ByteArray)} (h : cutRes s = (ws, true)) : s.size ≤ 3000 ∧ cutF s 0 = some ws ∧ ws.length ≤ 600 := by
  unfold cutRes at h
  split at h
  · simp at h
  · split at h
    · rename_i ws' hc
      split at h
      · rename_i hl
        injection h with h1 h2
        subst h1
        exact ⟨by omega, hc, hl⟩
      · simp at h
    · simp at h
theorem cutRes_off {s : ByteArray} {ws : List (Int × ByteArray)} (h : cutRes s = (ws, false)) : ws = [] ∧ (s.size ≤ 3000 → ∀ us, cutF s 0 = some us → 600 < us.length) := by
  unfold cutRes at h
  split at h
  · injection h with h1 h2
    exact ⟨h1.symm, fun h' => by omega⟩
  · split at h
    · rename_i ws' hc
      split at h
      · simp at h
      · rename_i hl
        injection h with h1 h2
        exact ⟨h1.symm, fun _ us hu => by rw [hc] at hu; injection hu with hu; subst hu; omega⟩
    · rename_i hc
      injection h with h1 h2
      exact ⟨h1.symm, fun _ us hu => by rw [hc] at hu; cases hu⟩

theorem takeWhile_all (p : UInt8 → Bool) : ∀ l : List UInt8, (∀ x ∈ l, p x = true) → l.takeWhile p = l ∧ l.dropWhile p = []
  | [], _ => ⟨rfl, rfl⟩
  | a :: r, h => by
    have ih := takeWhile_all p r (fun x hx => h x (List.mem_cons_of_mem _ hx))
    have ha := h a (List.mem_cons_self ..)
    rw [List.takeWhile_cons, List.dropWhile_cons, if_pos ha, if_pos ha, ih.1, ih.2]
    exact ⟨rfl, rfl⟩
theorem cutL_run {t : ByteArray} {b : UInt8} {r : List UInt8} {c z : Int} (ht : t.data.toList = b :: r) (hc : c ≠ 4 ∧ c ≠ 0) (h0 : cls b.toNat = c) (hr : r = [] ∨ (c < 3 ∧ ∀ x ∈ r, cls x.toNat = c))
    (hz : wordKind t c = z) (hv : validB z t = true) : cutL t.data.toList = some [(z, t)] := by
  have hp : ∀ x ∈ r, goCls c x = true := by
    intro x hx
    rcases hr with rfl | ⟨h3, hr⟩
    · cases hx
    · unfold goCls
      rw [hr x hx, decide_eq_true h3]
      simp
  have hw := takeWhile_all (goCls c) r hp
  have ht' : (⟨(b :: r).toArray⟩ : ByteArray) = t := by rw [← ht]
  rw [ht, cutL_cons, h0, hw.1, hw.2, ht', hz, if_neg hc.1, if_pos ⟨hc.2, hv⟩, cutL_nil]
  rfl
theorem nonempty_cons {t : ByteArray} (h : 0 < t.size) : ∃ b r, t.data.toList = b :: r ∧ ∀ (h0 : 0 < t.size), t[0] = b := by
  have hl := len_list t
  cases hd : t.data.toList with
  | nil => rw [hd, List.length_nil] at hl; omega
  | cons b r =>
    refine ⟨b, r, rfl, fun h0 => ?_⟩
    have e : t[0] = t.data.toList[0]'(by rw [hl]; exact h0) := rfl
    rw [e]
    simp [hd]
theorem key_letters : ∀ k, k < 9 → ∀ x ∈ (keyB k).data.toList, cls x.toNat = 1 := by decide +kernel
theorem isDig_cls {x : UInt8} (h : isDig x = true) : cls x.toNat = 2 := by
  unfold isDig at h
  simp only [decide_eq_true_eq] at h
  have h1 : 48 ≤ x.toNat := by simpa using h.1
  have h2 : x.toNat ≤ 57 := by simpa using h.2
  exact cls_digit h1 h2
open Classical in
theorem cutL_one {z : Int} {t : ByteArray} (h : validB z t = true) : cutL t.data.toList = some [(z, t)] := by
  have hv := h
  have nokey : ∀ {b : UInt8} {r : List UInt8}, t.data.toList = b :: r → cls b.toNat ≠ 1 → isKeyB t = false := by
    intro b r ht hb
    rw [Bool.eq_false_iff]
    intro hk
    obtain ⟨h0, hc⟩ := key_letter hk
    obtain ⟨b', r', ht', hg⟩ := nonempty_cons h0
    rw [ht] at ht'
    injection ht' with e1 e2
    rw [hg h0, ← e1] at hc
    exact hb hc
  unfold validB at h
  split at h
  · subst_vars
    unfold nameB at h
    simp only [Bool.and_eq_true, decide_eq_true_eq, Bool.not_eq_true'] at h
    obtain ⟨⟨ha, _⟩, hk⟩ := h
    unfold allB at ha
    replace ha := of_decide_eq_true ha
    obtain ⟨b, r, ht, hg⟩ := nonempty_cons ha.1
    have hall : ∀ x ∈ t.data.toList, cls x.toNat = 1 := by
      intro x hx
      obtain ⟨j, hj, rfl⟩ := mem_iff_get.1 hx
      exact ha.2 j hj hj
    rw [ht] at hall
    exact cutL_run ht ⟨by decide, by decide⟩ (hall b (List.mem_cons_self ..)) (.inr ⟨by decide, fun x hx => hall x (List.mem_cons_of_mem _ hx)⟩) (by unfold wordKind; rw [hk]; rfl) hv
  · split at h
    · subst_vars
      rw [decide_eq_true_eq] at h
      unfold numB at h
      split at h
      · rename_i hc
        have hcan := hc.1
        unfold canon at hcan
        simp only [Bool.and_eq_true] at hcan
        have hall : ∀ x ∈ t.data.toList, cls x.toNat = 2 := fun x hx => isDig_cls (List.all_eq_true.1 hcan.1.2 x hx)
        have h0 : 0 < t.size := by
          rw [← len_list]
          cases hd : t.data.toList with
          | nil => rw [hd] at hcan; simp at hcan
          | cons _ _ => simp
        obtain ⟨b, r, ht, hg⟩ := nonempty_cons h0
        rw [ht] at hall
        have hb := hall b (List.mem_cons_self ..)
        exact cutL_run ht ⟨by decide, by decide⟩ hb (.inr ⟨by decide, fun x hx => hall x (List.mem_cons_of_mem _ hx)⟩) (by unfold wordKind; rw [nokey ht (by omega)]; rfl) hv
      · omega
    · split at h
      · subst_vars
        unfold signB at h
        split at h
        · rename_i h1
          rw [beq_iff_eq] at h
          obtain ⟨b, r, ht, hg⟩ := nonempty_cons (t := t) (by omega)
          rw [hg] at h
          have hr : r = [] := by
            have := len_list t
            rw [ht, List.length_cons] at this
            exact List.eq_nil_of_length_eq_zero (by omega)
          exact cutL_run ht ⟨by decide, by decide⟩ h (.inl hr) (by unfold wordKind; rw [nokey ht (by omega)]; rfl) hv
        · cases h
      · split at h
        · subst_vars
          obtain ⟨h0, _⟩ := key_letter h
          obtain ⟨b, r, ht, hg⟩ := nonempty_cons h0
          have hall : ∀ x ∈ t.data.toList, cls x.toNat = 1 := by
            obtain ⟨k, hk, rfl⟩ := (isKeyB_iff t).1 h
            exact key_letters k hk
          rw [ht] at hall
          exact cutL_run ht ⟨by decide, by decide⟩ (hall b (List.mem_cons_self ..)) (.inr ⟨by decide, fun x hx => hall x (List.mem_cons_of_mem _ hx)⟩) (by unfold wordKind; rw [h]; rfl) hv
        · cases h

theorem cutL_join {ws : List (Int × ByteArray)} (hv : ∀ x ∈ ws, validB x.1 x.2 = true) : ∀ k, k ≤ ws.length → cutL (joinB (ws.take k)) = some (ws.take k)
  | 0, _ => by simp [joinB_nil, cutL_nil]
  | k + 1, hk => by
    have h1 := cutL_one (hv _ (List.getElem_mem (show k < ws.length by omega)))
    by_cases h0 : k = 0
    · subst h0
      rw [joinB_first (by omega), h1, List.take_succ_eq_append_getElem (by omega)]
      simp
    · rw [joinB_next (by omega) (by omega), cutL_two _ _ (Nat.le_refl _) 32 _ (by decide), cutL_join hv k (by omega), h1, List.take_succ_eq_append_getElem (by omega)]
      rfl
/-- How long words are with a blank behind each. -/
def totalW (ws : List (Int × ByteArray)) : Nat := (ws.map (fun x => x.2.size + 1)).sum
theorem totalW_cons (x : Int × ByteArray) (ws : List (Int × ByteArray)) : totalW (x :: ws) = x.2.size + 1 + totalW ws := by simp [totalW]
theorem totalW_snoc (x : Int × ByteArray) (ws : List (Int × ByteArray)) : totalW (ws ++ [x]) = totalW ws + (x.2.size + 1) := by simp [totalW]
theorem cutL_total : ∀ (n : Nat) (l : List UInt8) (ws : List (Int × ByteArray)), l.length ≤ n → cutL l = some ws → totalW ws ≤ 2 * l.length := by
  intro n
  induction n with
  | zero =>
    intro l ws hl h
    have : l = [] := List.eq_nil_of_length_eq_zero (by omega)
    subst this
    rw [cutL_nil] at h
    injection h with h
    subst h
    simp [totalW]
  | succ n ih =>
    intro l ws hl h
    cases l with
    | nil =>
      rw [cutL_nil] at h
      injection h with h
      subst h
      simp [totalW]
    | cons b r =>
      rw [List.length_cons] at hl ⊢
      rw [cutL_cons] at h
      split at h
      · have := ih r ws (by omega) h
        omega
      · split at h
        · have hd := dropWhile_le (goCls (cls b.toNat)) r
          have hs : (r.takeWhile (goCls (cls b.toNat))).length + (r.dropWhile (goCls (cls b.toNat))).length = r.length := by
            rw [← List.length_append, List.takeWhile_append_dropWhile]
          rw [Option.map_eq_some_iff] at h
          obtain ⟨us, hu, rfl⟩ := h
          have := ih _ us (by omega) hu
          rw [totalW_cons]
          show (b :: r.takeWhile (goCls (cls b.toNat))).toArray.size + 1 + totalW us ≤ _
          rw [List.size_toArray, List.length_cons]
          omega
        · cases h
theorem joinB_total {ws : List (Int × ByteArray)} : ∀ k, k ≤ ws.length → (joinB (ws.take k)).length ≤ totalW (ws.take k)
  | 0, _ => by simp [joinB_nil]
  | k + 1, hk => by
    have ih := joinB_total k (show k ≤ ws.length by omega)
    have e := len_list (ws[k]'(by omega)).2
    rw [List.take_succ_eq_append_getElem (by omega), totalW_snoc]
    rw [← List.take_succ_eq_append_getElem (by omega)]
    by_cases h0 : k = 0
    · subst h0
      rw [joinB_first (by omega), e]
      omega
    · rw [joinB_next (by omega) (by omega), List.length_append, List.length_cons, e]
      omega
theorem plain_yes {s : ByteArray} {ws : List (Int × ByteArray)} (h : cutRes s = (ws, true)) :
    ∃ x, plainF s = (x, true) ∧ cutRes x = (ws, true) ∧ plainF x = (x, true) ∧ x.size ≤ 2 * s.size ∧ x.size ≤ 3000 := by
  obtain ⟨_, hc, hl⟩ := cutRes_inv h
  have hv : ∀ x ∈ ws, validB x.1 x.2 = true := by have := cutRes_valid s; rw [h] at this; exact this
  have hvt : validTo ws ws.length := fun j hj _ => hv _ (List.getElem_mem hj)
  have hj := joinF_yes hl hvt
  have ht : ws.take ws.length = ws := List.take_of_length_le (Nat.le_refl _)
  have hsz : (⟨(joinB ws).toArray⟩ : ByteArray).size = (joinB ws).length := by show (joinB ws).toArray.size = _; simp
  have h5 := joinB_len ws.length (Nat.le_refl _) hvt
  have hto := joinB_total (ws := ws) ws.length (Nat.le_refl _)
  have hcl := cutL_join hv ws.length (Nat.le_refl _)
  rw [ht] at h5 hto hcl
  have h2 := cutL_total _ _ ws (Nat.le_refl _) (by rw [← cut_list]; exact hc)
  rw [len_list] at h2
  have hcx : cutRes ⟨(joinB ws).toArray⟩ = (ws, true) := cutRes_yes (by rw [hsz]; omega) (by rw [cut_list]; simpa using hcl) hl
  refine ⟨⟨(joinB ws).toArray⟩, ?_, hcx, ?_, by rw [hsz]; omega, by rw [hsz]; omega⟩
  · unfold plainF; rw [h]; exact hj
  · unfold plainF; rw [hcx]; exact hj
theorem plain_no {s : ByteArray} {ws : List (Int × ByteArray)} (h : cutRes s = (ws, false)) : plainF s = (⟨#[]⟩, false) := by
  unfold plainF; rw [h]; rfl
end Go.Proofs.YtljdbjfbcjigaaaGreatDoor
