/-
  Plain mathematics of cutting, upon lists: two texts with a blank between, a strange byte, line feeds for blanks.
-/
import Derived.Test.YtkhcfhhejmkikaaGreatDoorMg15
import Derived.Test.YtkhcfhhejmkikaaGreatDoorMg16
namespace Go.Proofs.YtkhcfhhejmkikaaGreatDoor
open Go.RowKit
set_option maxRecDepth 100000

theorem runsN_bd (s : ByteArray) : ∀ n i, ∀ t ∈ runsN s n i, 0 < t.size ∧ t.size ≤ s.size
  | 0, _, t, h => by cases h
  | n + 1, i, t, h => by
    unfold runsN at h
    by_cases hi : i < s.size
    · rw [dif_pos hi] at h
      have hb := endK_bd hi
      rcases List.mem_cons.1 h with rfl | h
      · rw [ByteArray.size_extract]; omega
      · exact runsN_bd s n _ t h
    · rw [dif_neg hi] at h; cases h
theorem runsN_len (s : ByteArray) : ∀ n i, (runsN s n i).length ≤ n
  | 0, _ => Nat.le_refl _
  | n + 1, i => by
    unfold runsN
    split
    · have := runsN_len s n (endK s i (by assumption)); simp; omega
    · simp
theorem runsF_bd {s : ByteArray} {i : Nat} : ∀ t ∈ runsF s i, 0 < t.size ∧ t.size ≤ s.size := runsN_bd s _ i
theorem runsF_len (s : ByteArray) : (runsF s 0).length ≤ s.size := runsN_len s _ 0
/-- Behind words acc, from run n on. -/
def procAt (l : List ByteArray) (n : Nat) (acc : List (Int × ByteArray)) : Prop := procR l = (procR (l.drop n)).map (acc ++ ·)
theorem procAt_gap {l : List ByteArray} {n : Nat} {acc : List (Int × ByteArray)} (h : procAt l n acc) (hn : n < l.length) (hk : runKind l[n] = 5) : procAt l (n + 1) acc := by
  unfold procAt at h ⊢
  rw [h, List.drop_eq_getElem_cons hn]
  congr 1
  show (if runKind l[n] = 5 then _ else _) = _
  rw [if_pos hk]
theorem procAt_word {l : List ByteArray} {n : Nat} {acc : List (Int × ByteArray)} (h : procAt l n acc) (hn : n < l.length) (hk : runKind l[n] ≠ 5) (hv : validB (runKind l[n]) l[n] = true) : procAt l (n + 1) (acc ++ [(runKind l[n], l[n])]) := by
  unfold procAt at h ⊢
  have e : procR (l[n] :: l.drop (n + 1)) = (procR (l.drop (n + 1))).map ((runKind l[n], l[n]) :: ·) := by
    show (if runKind l[n] = 5 then _ else if validB (runKind l[n]) l[n] = true then _ else none) = _
    rw [if_neg hk, if_pos hv]
  rw [h, List.drop_eq_getElem_cons hn, e]
  cases procR (l.drop (n + 1)) <;> simp
theorem procAt_bad {l : List ByteArray} {n : Nat} {acc : List (Int × ByteArray)} (h : procAt l n acc) (hn : n < l.length) (hk : runKind l[n] ≠ 5) (hv : validB (runKind l[n]) l[n] = false) : procR l = none := by
  unfold procAt at h
  have e : procR (l[n] :: l.drop (n + 1)) = none := by
    show (if runKind l[n] = 5 then _ else if validB (runKind l[n]) l[n] = true then _ else none) = _
    rw [if_neg hk, if_neg (by rw [hv]; simp)]
  rw [h, List.drop_eq_getElem_cons hn, e]
  rfl
theorem procAt_end {l : List ByteArray} {acc : List (Int × ByteArray)} (h : procAt l l.length acc) : procR l = some acc := by
  unfold procAt at h
  rw [h, List.drop_of_length_le (Nat.le_refl _)]
  simp [procR]
theorem procAt_many {l : List ByteArray} {n : Nat} {acc : List (Int × ByteArray)} (h : procAt l n acc) (hm : 600 < acc.length) : ∀ ws, procR l = some ws → 600 < ws.length := by
  intro ws hw
  unfold procAt at h
  rw [h] at hw
  obtain ⟨x, _, rfl⟩ := Option.map_eq_some_iff.1 hw
  simp; omega
theorem ownsRow_base {w : World} {base base' e size n : Nat} {v : Value} {xs : List Value} (h : w.ownsRow base e size v n xs) (hb : base' ≤ base) : w.ownsRow base' e size v n xs := by
  refine ⟨h.1, ?_⟩
  rcases h.2 with h' | ⟨g, cap, cur, h1, h2, h3⟩
  · exact .inl h'
  · exact .inr ⟨g, cap, cur, h1, by omega, h3⟩
theorem strs_own {w : World} {base e : Nat} {l : List ByteArray} {v : Value} (h : w.ownsRow base e 1 v l.length (strCells l)) : ∃ A cap, v = .slice A l.length cap ∧ Strs w w.heap.size A l := by
  rcases h.2 with ⟨rfl, h0⟩ | ⟨g, cap, cur, rfl, _⟩
  · exact ⟨none, 0, by rw [h0], fun hne => absurd (List.length_eq_zero_iff.1 h0) hne⟩
  · exact ⟨_, cap, rfl, strs_of_own h rfl (fun k hk => by unfold strCells; rw [List.getElem?_map, List.getElem?_eq_getElem hk]; rfl)⟩
theorem cut_runs (s : ByteArray) : procR (runsF s 0) = cutF s 0 := runs_cut s _ 0 (Nat.le_refl _)
theorem nil_own (w : World) (base : Nat) : w.ownsRow base 76 2 (.slice none 0 0) 0 [] := ⟨rfl, .inl ⟨rfl, rfl⟩⟩

set_option maxHeartbeats 4000000 in
theorem implCutWords_any (s : ByteArray) (w : World) (hs : s.size ≤ 1048576) (T : Tabs w) (N : NTabs w) :
    Calls Tryz.prog 23 #[.string s] w (CutRet (cutRes s) w) := by
  obtain ⟨i0, hi, hz0, hz1, hz2⟩ := info_parts wordInfo
  by_cases hlong : 3000 < s.size
  · rw [cutRes_long hlong]
    go_enter Tryz.func23, Tryz.ntmps23
    go_wp2
    go_ret2
    exact ⟨⟨_, rfl, nil_own _ _⟩, Below.refl _ _⟩
  have hle : s.size ≤ 3000 := by omega
  clear hlong hs
  have CR := Lib.hid (cutRuns_any s w hle T)
  have HCUT := Lib.hid (cut_runs s)
  have hbd := fun t h => runsF_bd (s := s) (i := 0) t h
  have HBD := Lib.hid hbd
  have hll := runsF_len s
  clear hbd
  generalize runsF s 0 = l at *
  go_enter Tryz.func23, Tryz.ntmps23
  go_wp2_with fail
  refine CR.out.mono ?_
  rintro e w1 ⟨⟨vr, rfl, hownr⟩, hb1⟩
  clear CR
  obtain ⟨A, capr, rfl, hS⟩ := strs_own hownr
  clear hownr
  have hbs1 := hb1.size
  go_wp2
  go_loopw [4, 14] (fun v i wr => ∃ (n : Nat) (acc : List (Int × ByteArray)), n ≤ l.length ∧ i = .int .i64 n ∧ procAt l n acc ∧ acc.length ≤ 600 ∧ wr.ownsRow w1.heap.size 76 2 v acc.length (wordCells acc) ∧ Below w1.heap.size w1 wr) (fun _ i _ => l.length - (intOf i).toNat)
  case atStart => exact ⟨0, [], Nat.zero_le _, rfl, by unfold procAt; simp, by simp, nil_own _ _, Below.refl _ _⟩
  case round =>
    obtain ⟨n, acc, hn, rfl, hat, hacc, hown, hb⟩ := hrel
    have HAT := Lib.hid hat
    have HO := Lib.hid hown
    clear hat hown
    obtain ⟨Aw, capw, rfl⟩ := own_slice HO.out
    have hb0 := hb1.trans (hb.mono hbs1)
    by_cases hlt : n < l.length
    · obtain ⟨b, o, rfl, hB, hc1⟩ := (hS.below hb).at_ hlt
      obtain ⟨t0, t1⟩ := HBD.out _ (List.getElem_mem hlt)
      have t2 : l[n].size ≤ 1048576 := by omega
      have WO := Lib.hid (wordOf_any l[n] wr t0 (T.below hb0))
      have VW := fun W h1 h2 => Lib.hid (implWordValid_any (runKind l[n]) l[n] W t2 h1 h2)
      by_cases h5 : runKind l[n] = 5
      · have HN := Lib.hid (procAt_gap HAT.out hlt h5)
        rw [h5] at WO
        clear h5 VW t0 t1 t2
        generalize l[n] = t at *
        go_wp2_with fail
        refine WO.out.mono ?_
        rintro e w2 ⟨rfl, hb2⟩
        have HO2 := Lib.hid (HO.out.kept (w' := w2) (row := none) ⟨hb2.os, hb2.tape, hb2.output, hb2.size, fun i hi _ => hb2.block i hi⟩ (Classical.em _))
        have hb3 := hb.trans (hb2.mono hb.size)
        have hb4 := hb3.alloc hb3.size (.cells #[.int .i64 5, .string t] 76)
        clear hb hb0 hb2 hb3
        go_wp2
        go_roundw
        case rel => exact ⟨n + 1, acc, by omega, by go_num, HN.out, hacc, HO2.out.alloc _, hb4⟩
        case measure => simp only [intOf]; omega
      · have b5 : (runKind l[n] == 5) = false := by rw [beq_eq_false_iff_ne]; exact h5
        cases hv : validB (runKind l[n]) l[n]
        · have HR := Lib.hid (cutRes_none (by rw [← HCUT.out]; exact procAt_bad HAT.out hlt h5 hv))
          rw [hv] at VW
          clear h5 hv t0 t1 t2
          generalize runKind l[n] = kd at *
          generalize l[n] = t at *
          go_wp2_with fail
          refine WO.out.mono ?_
          rintro e w2 ⟨rfl, hb2⟩
          have hb3 := hb0.trans (hb2.mono hb0.size)
          have hb4 := hb3.alloc hb3.size (.cells #[.int .i64 kd, .string t] 76)
          have V2 := Lib.hid (VW _ (T.below hb4) (N.below hb4)).out
          clear VW hb hb0 hb2 hb3
          go_wp2_with fail
          refine V2.out.mono ?_
          rintro e w3 ⟨rfl, hb5⟩
          have hb6 := hb4.trans (hb5.mono hb4.size)
          clear hb4 hb5 V2
          go_wp2
          go_ret2
          rw [HR.out]
          exact ⟨⟨_, rfl, nil_own _ _⟩, hb6⟩
        · have HN := Lib.hid (procAt_word HAT.out hlt h5 hv)
          rw [hv] at VW
          clear h5 hv t0 t1 t2
          generalize runKind l[n] = kd at *
          generalize l[n] = t at *
          by_cases hfull : acc.length = 600
          · have HR := Lib.hid (cutRes_many (s := s) (by rw [← HCUT.out]; exact procAt_many HN.out (by simp; omega)))
            have b6 : ((acc.length : Int) == 600) = true := by rw [beq_iff_eq]; omega
            clear hfull
            go_wp2_with fail
            refine WO.out.mono ?_
            rintro e w2 ⟨rfl, hb2⟩
            have hb3 := hb0.trans (hb2.mono hb0.size)
            have hb4 := hb3.alloc hb3.size (.cells #[.int .i64 kd, .string t] 76)
            have V2 := Lib.hid (VW _ (T.below hb4) (N.below hb4)).out
            clear VW hb hb0 hb2 hb3
            go_wp2_with fail
            refine V2.out.mono ?_
            rintro e w3 ⟨rfl, hb5⟩
            have hb6 := hb4.trans (hb5.mono hb4.size)
            clear hb4 hb5 V2
            go_wp2
            go_ret2
            rw [HR.out]
            exact ⟨⟨_, rfl, nil_own _ _⟩, hb6⟩
          · have b6 : ((acc.length : Int) == 600) = false := by rw [beq_eq_false_iff_ne]; omega
            have hacc' : acc.length < 600 := by omega
            clear hfull
            go_wp2_with fail
            refine WO.out.mono ?_
            rintro e w2 ⟨rfl, hb2⟩
            have HO2 := HO.out.kept (w' := w2) (row := none) ⟨hb2.os, hb2.tape, hb2.output, hb2.size, fun i hi _ => hb2.block i hi⟩ (Classical.em _)
            have HO3 := Lib.hid (HO2.alloc (.cells #[.int .i64 kd, .string t] 76))
            have hb3 := hb0.trans (hb2.mono hb0.size)
            have hb4 := hb3.alloc hb3.size (.cells #[.int .i64 kd, .string t] 76)
            have hc3 := hb.trans (hb2.mono hb.size)
            have hc4 := hc3.alloc hc3.size (.cells #[.int .i64 kd, .string t] 76)
            have V2 := Lib.hid (VW _ (T.below hb4) (N.below hb4)).out
            clear VW hb hb0 hb2 hb3 hc3 HO2
            go_wp2_with fail
            refine V2.out.mono ?_
            rintro e w3 ⟨rfl, hb5⟩
            obtain ⟨q0, q1, _, _⟩ := own_cells hb5
            have HO4 := Lib.hid (HO3.out.kept (w' := w3) (row := none) ⟨hb5.os, hb5.tape, hb5.output, hb5.size, fun i hi _ => hb5.block i hi⟩ (Classical.em _))
            have hc5 := hc4.trans (hb5.mono hc4.size)
            have HNW := Lib.hid (new_word w3 kd t)
            have HTO := Lib.hid (wordOne kd t)
            have hc6 := hc5.alloc hc5.size (.cells #[.int .i64 kd, .string t] 76)
            have hbz : w1.heap.size ≤ (w3.alloc (.cells #[.int .i64 kd, .string t] 76)).heap.size := hc6.size
            clear hb4 hb5 V2 hc4 hc5
            go_wp2_with (at_builtin; refine wpList_append_own _ rfl _ _ 38 rfl w1.heap.size 76 i0 (.agg #[.int .i64 0, .string ⟨#[]⟩]) 2 24 Tryz.underlying38 hi hz0 hz1 hz2 rfl (by decide) _ acc.length (wordCells acc) rfl (HO4.out.alloc _) ⟨w3.heap.size, 0, none⟩ 1 1 [.int .i64 kd, .string t] rfl rfl HNW.out HTO.out (by unfold maxLen; omega) (by omega) hbz ?_; intro v' w5 hown5 hgrow5 _)
            have hc8 := hc6.grown hgrow5 hbz (fun k e => ((HO4.out.alloc (.cells #[.int .i64 kd, .string t] 76)).lt k e).1)
            have HO5 := Lib.hid hown5
            clear hc6 hgrow5 hown5
            go_wp2
            go_roundw
            case rel => exact ⟨n + 1, acc ++ [(kd, t)], by omega, by go_num, HN.out, by simp; omega, by rw [wordCells_snoc, List.length_append]; exact HO5.out, hc8⟩
            case measure => simp only [intOf]; omega
    · obtain rfl : n = l.length := by omega
      have HR := Lib.hid (cutRes_yes hle (by rw [← HCUT.out]; exact procAt_end HAT.out) hacc)
      go_wp2
      go_ret2
      rw [HR.out]
      exact ⟨⟨_, rfl, ownsRow_base HO.out hbs1⟩, hb0⟩
end Go.Proofs.YtkhcfhhejmkikaaGreatDoor

namespace Go.Proofs.YtkhcfhhejmkikaaGreatDoor
open Go.RowKit
set_option maxRecDepth 100000

def marked (xs : List Value) (k0 k : Nat) : Prop := ∀ j, j < k → xs[j * 2]? = some (.int .i64 ((k0 + j * 2 : Nat) : Int)) ∧ xs[j * 2 + 1]? = some (.string (markB (k0 + j * 2 + 1)))
theorem marked_succ {xs : List Value} {k0 k n : Nat} (h : marked xs k0 k) (hl : xs.length = n * 2) (hk : k < n) :
    marked ((xs.set (k * 2) (.int .i64 ((k0 + k * 2 : Nat) : Int))).set (k * 2 + 1) (.string (markB (k0 + k * 2 + 1)))) k0 (k + 1) := by
  intro j hj
  simp only [List.getElem?_set, List.length_set]
  by_cases e : j = k
  · subst e
    refine ⟨?_, ?_⟩
    · rw [if_neg (by omega), if_pos rfl, if_pos (by omega)]
    · rw [if_pos rfl, if_pos (by omega)]
  · have := h j (by omega)
    refine ⟨?_, ?_⟩
    · rw [if_neg (by omega), if_neg (by omega)]; exact this.1
    · rw [if_neg (by omega), if_neg (by omega)]; exact this.2
def MarkWRet (base e n k0 : Nat) (v : Value) (w : World) (en : Ending) (w' : World) : Prop :=
  en = .returned (.int .i64 ((k0 + n * 2 : Nat) : Int)) ∧ (∃ xs', w'.ownsRow base e 2 v n xs' ∧ marked xs' k0 n) ∧ Below base w w'


end Go.Proofs.YtkhcfhhejmkikaaGreatDoor

namespace Go.Proofs.YtkhcfhhejmkikaaGreatDoor
open Go.RowKit
set_option maxRecDepth 100000

theorem words_own {w : World} {base e : Nat} {ws : List (Int × ByteArray)} {v : Value} (h : w.ownsRow base e 2 v ws.length (wordCells ws)) : ∃ A cap, v = .slice A ws.length cap ∧ Words w w.heap.size A ws := by
  rcases h.2 with ⟨rfl, h0⟩ | ⟨g, cap, cur, rfl, _⟩
  · exact ⟨none, 0, by rw [h0], fun hne => absurd (List.length_eq_zero_iff.1 h0) hne⟩
  · exact ⟨_, cap, rfl, Words.of_own h⟩
theorem cutRes_len (s : ByteArray) : (cutRes s).1.length ≤ 600 := by
  unfold cutRes
  split
  · simp
  · split
    · split
      · assumption
      · simp
    · simp
theorem words_self (ws : List (Int × ByteArray)) : decide (ws = ws) = true := by simp
theorem own_below {w w' : World} {base e size n : Nat} {v : Value} {xs : List Value} (h : w.ownsRow base e size v n xs) (hb : Below w.heap.size w w') : w'.ownsRow base e size v n xs :=
  h.kept (row := none) ⟨hb.os, hb.tape, hb.output, hb.size, fun i hi _ => hb.block i hi⟩ (Classical.em _)

end Go.Proofs.YtkhcfhhejmkikaaGreatDoor

namespace Go.Proofs.YtkhcfhhejmkikaaGreatDoor
open Go.RowKit
set_option maxRecDepth 100000

theorem procR_valid : ∀ (l : List ByteArray) (ws : List (Int × ByteArray)), procR l = some ws → ∀ x ∈ ws, validB x.1 x.2 = true
  | [], ws, h, x, hx => by
    have : ws = [] := (Option.some.inj h).symm
    subst this; cases hx
  | t :: r, ws, h, x, hx => by
    have e : procR (t :: r) = if runKind t = 5 then procR r else if validB (runKind t) t = true then (procR r).map ((runKind t, t) :: ·) else none := rfl
    rw [e] at h
    split at h
    · exact procR_valid r ws h x hx
    · split at h
      · rename_i hv
        obtain ⟨y, hy, rfl⟩ := Option.map_eq_some_iff.1 h
        rcases List.mem_cons.1 hx with rfl | hx
        · exact hv
        · exact procR_valid r y hy x hx
      · cases h
theorem cutRes_valid (s : ByteArray) : ∀ x ∈ (cutRes s).1, validB x.1 x.2 = true := by
  intro x hx
  unfold cutRes at hx
  split at hx
  · cases hx
  · split at hx
    · rename_i ws hc
      split at hx
      · exact procR_valid _ ws (by rw [cut_runs]; exact hc) x hx
      · cases hx
    · cases hx
/-- What PlainText returns. -/
noncomputable def plainF (s : ByteArray) : ByteArray × Bool := if (cutRes s).2 = true then joinF (cutRes s).1 else (⟨#[]⟩, false)

set_option maxHeartbeats 1000000 in
theorem implPlainText_any (s : ByteArray) (w : World) (hs : s.size ≤ 1048576) (T : Tabs w) (N : NTabs w) :
    Calls Tryz.prog 18 #[.string s] w (TextRet (plainF s) w) := by
  have SC := Lib.hid (implCutWords_any s w hs T N)
  have hlen := cutRes_len s
  have HV := Lib.hid (cutRes_valid s)
  unfold plainF
  generalize cutRes s = p at *
  obtain ⟨ws, ok⟩ := p
  have hlen' : ws.length ≤ 600 := hlen
  clear hlen
  cases ok
  · go_enter Tryz.func18, Tryz.ntmps18
    go_wp2_with fail
    refine SC.out.mono ?_
    rintro e w1 ⟨⟨v0, rfl, hO1⟩, hb1⟩
    clear SC hO1
    go_wp2
    go_ret2
    exact ⟨rfl, hb1⟩
  · go_enter Tryz.func18, Tryz.ntmps18
    go_wp2_with fail
    refine SC.out.mono ?_
    rintro e w1 ⟨⟨v0, rfl, hO1⟩, hb1⟩
    obtain ⟨A0, cap0, rfl, hW1⟩ := words_own hO1
    have SJ := Lib.hid (implJoinWords_any A0 ws cap0 w1 hW1 (fun x hx => by have := validB_size (HV.out x hx); omega) (by omega) (T.below hb1) (N.below hb1))
    have e1 : (if (ws, true).2 = true then joinF (ws, true).1 else (⟨#[]⟩, false)) = joinF ws := rfl
    have HE := Lib.hid e1
    clear e1 SC hO1 hW1
    generalize joinF ws = q at *
    obtain ⟨tx, fl⟩ := q
    go_wp2_with fail
    refine SJ.out.mono ?_
    rintro e w2 ⟨rfl, hb2⟩
    have hb3 := hb1.trans (hb2.mono hb1.size)
    clear hb1 hb2 SJ
    go_wp2
    go_ret2
    exact ⟨rfl, hb3⟩

end Go.Proofs.YtkhcfhhejmkikaaGreatDoor

namespace Go.Proofs.YtkhcfhhejmkikaaGreatDoor
open Go.RowKit

/-- The words of bytes; none if there is a wrong one. -/
noncomputable def cutLN : Nat → List UInt8 → Option (List (Int × ByteArray))
  | 0, _ => some []
  | _ + 1, [] => some []
  | n + 1, b :: r =>
      if cls b.toNat = 4 then cutLN n r
      else if cls b.toNat ≠ 0 ∧ validB (wordKind ⟨(b :: r.takeWhile (goCls (cls b.toNat))).toArray⟩ (cls b.toNat)) ⟨(b :: r.takeWhile (goCls (cls b.toNat))).toArray⟩ = true then
        (cutLN n (r.dropWhile (goCls (cls b.toNat)))).map ((wordKind ⟨(b :: r.takeWhile (goCls (cls b.toNat))).toArray⟩ (cls b.toNat), ⟨(b :: r.takeWhile (goCls (cls b.toNat))).toArray⟩) :: ·)
      else none
theorem dropWhile_le (p : UInt8 → Bool) : ∀ l : List UInt8, (l.dropWhile p).length ≤ l.length
  | [] => Nat.le_refl _
  | b :: r => by
    rw [List.dropWhile_cons]
    split
    · have := dropWhile_le p r; rw [List.length_cons]; omega
    · exact Nat.le_refl _
theorem cutLN_fuel : ∀ (n m : Nat) (l : List UInt8), l.length ≤ n → l.length ≤ m → cutLN n l = cutLN m l
  | 0, 0, _, _, _ => rfl
  | 0, m + 1, [], _, _ => rfl
  | n + 1, 0, [], _, _ => rfl
  | n + 1, m + 1, [], _, _ => rfl
  | 0, _, b :: r, h, _ => by simp at h
  | _ + 1, 0, b :: r, _, h => by simp at h
  | n + 1, m + 1, b :: r, h1, h2 => by
    have := dropWhile_le (goCls (cls b.toNat)) r
    rw [List.length_cons] at h1 h2
    unfold cutLN
    rw [cutLN_fuel n m r (by omega) (by omega), cutLN_fuel n m (r.dropWhile (goCls (cls b.toNat))) (by omega) (by omega)]
noncomputable def cutL (l : List UInt8) : Option (List (Int × ByteArray)) := cutLN l.length l
theorem cutL_nil : cutL [] = some [] := rfl
theorem cutL_cons (b : UInt8) (r : List UInt8) : cutL (b :: r) = if cls b.toNat = 4 then cutL r
      else if cls b.toNat ≠ 0 ∧ validB (wordKind ⟨(b :: r.takeWhile (goCls (cls b.toNat))).toArray⟩ (cls b.toNat)) ⟨(b :: r.takeWhile (goCls (cls b.toNat))).toArray⟩ = true then
        (cutL (r.dropWhile (goCls (cls b.toNat)))).map ((wordKind ⟨(b :: r.takeWhile (goCls (cls b.toNat))).toArray⟩ (cls b.toNat), ⟨(b :: r.takeWhile (goCls (cls b.toNat))).toArray⟩) :: ·)
      else none := by
  have hd := dropWhile_le (goCls (cls b.toNat)) r
  show cutLN (r.length + 1) (b :: r) = _
  unfold cutL
  conv => lhs; unfold cutLN
  rw [cutLN_fuel r.length (r.dropWhile (goCls (cls b.toNat))).length (r.dropWhile (goCls (cls b.toNat))) hd (Nat.le_refl _)]
theorem cutL_blank {b : UInt8} {r : List UInt8} (h : cls b.toNat = 4) : cutL (b :: r) = cutL r := by rw [cutL_cons, if_pos h]

/-- A byte that goes on with no word of a class. -/
theorem goCls_no {c : Int} {b : UInt8} (h : cls b.toNat ≠ c) : goCls c b = false := by
  unfold goCls
  rw [beq_eq_false_iff_ne.2 h]
  rfl
theorem takeWhile_stop (p : UInt8 → Bool) {b : UInt8} (c : List UInt8) (h : p b = false) : ∀ l : List UInt8, (l ++ b :: c).takeWhile p = l.takeWhile p ∧ (l ++ b :: c).dropWhile p = l.dropWhile p ++ b :: c
  | [] => by simp [h]
  | a :: r => by
    have ih := takeWhile_stop p c h r
    rw [List.cons_append, List.takeWhile_cons, List.dropWhile_cons, List.takeWhile_cons, List.dropWhile_cons]
    cases p a
    · exact ⟨rfl, rfl⟩
    · simp only [if_true]
      exact ⟨by rw [ih.1], ih.2⟩
/-- What is joined if both are there. -/
def both : Option (List (Int × ByteArray)) → Option (List (Int × ByteArray)) → Option (List (Int × ByteArray))
  | some x, some y => some (x ++ y)
  | _, _ => none
theorem both_map (x : Int × ByteArray) (a b : Option (List (Int × ByteArray))) : both (a.map (x :: ·)) b = (both a b).map (x :: ·) := by
  cases a <;> cases b <;> rfl
theorem both_nil (b : Option (List (Int × ByteArray))) : both (some []) b = b := by cases b <;> rfl
theorem both_none (b : Option (List (Int × ByteArray))) : both none b = none := by cases b <;> rfl

theorem cutL_two (n : Nat) : ∀ (a : List UInt8), a.length ≤ n → ∀ (b : UInt8) (c : List UInt8), cls b.toNat = 4 → cutL (a ++ b :: c) = both (cutL a) (cutL c) := by
  induction n with
  | zero =>
    intro a ha b c hb
    have : a = [] := List.eq_nil_of_length_eq_zero (by omega)
    subst this
    rw [List.nil_append, cutL_blank hb, cutL_nil, both_nil]
  | succ n ih =>
    intro a ha b c hb
    cases a with
    | nil => rw [List.nil_append, cutL_blank hb, cutL_nil, both_nil]
    | cons x r =>
      rw [List.length_cons] at ha
      rw [List.cons_append, cutL_cons, cutL_cons x r]
      by_cases h4 : cls x.toNat = 4
      · rw [if_pos h4, if_pos h4, ih r (by omega) b c hb]
      · have hs := takeWhile_stop (goCls (cls x.toNat)) c (goCls_no (c := cls x.toNat) (b := b) (by rw [hb]; exact fun e => h4 e.symm)) r
        have hd := dropWhile_le (goCls (cls x.toNat)) r
        rw [if_neg h4, if_neg h4, hs.1, hs.2, ih _ (by omega) b c hb]
        by_cases hv : cls x.toNat ≠ 0 ∧ validB (wordKind ⟨(x :: r.takeWhile (goCls (cls x.toNat))).toArray⟩ (cls x.toNat)) ⟨(x :: r.takeWhile (goCls (cls x.toNat))).toArray⟩ = true
        · rw [if_pos hv, if_pos hv, both_map]
        · rw [if_neg hv, if_neg hv, both_none]
theorem cutL_strange (n : Nat) : ∀ (a : List UInt8), a.length ≤ n → ∀ (b : UInt8) (c : List UInt8), cls b.toNat = 0 → cutL (a ++ b :: c) = none := by
  have one : ∀ (b : UInt8) (c : List UInt8), cls b.toNat = 0 → cutL (b :: c) = none := by
    intro b c hb
    rw [cutL_cons, if_neg (by omega), if_neg (fun h => h.1 hb)]
  induction n with
  | zero =>
    intro a ha b c hb
    have : a = [] := List.eq_nil_of_length_eq_zero (by omega)
    subst this
    exact one b c hb
  | succ n ih =>
    intro a ha b c hb
    cases a with
    | nil => exact one b c hb
    | cons x r =>
      rw [List.length_cons] at ha
      rw [List.cons_append, cutL_cons]
      by_cases h4 : cls x.toNat = 4
      · rw [if_pos h4, ih r (by omega) b c hb]
      · rw [if_neg h4]
        by_cases h0 : cls x.toNat = 0
        · rw [if_neg (fun h => h.1 h0)]
        · have hs := takeWhile_stop (goCls (cls x.toNat)) c (goCls_no (c := cls x.toNat) (b := b) (by rw [hb]; exact fun e => h0 e.symm)) r
          have hd := dropWhile_le (goCls (cls x.toNat)) r
          rw [hs.1, hs.2, ih _ (by omega) b c hb]
          split <;> rfl

/-- A line feed for a space. -/
def feed (b : UInt8) : UInt8 := if b = 32 then 10 else b
theorem cls_feed (b : UInt8) : cls (feed b).toNat = cls b.toNat := by
  unfold feed
  split
  · rename_i h; subst h; decide
  · rfl
theorem feed_id {b : UInt8} (h : cls b.toNat ≠ 4) : feed b = b := by
  unfold feed
  rw [if_neg]
  rintro rfl
  exact h (by decide)
theorem takeWhile_feed {c : Int} (hc : c ≠ 4) : ∀ l : List UInt8, (l.map feed).takeWhile (goCls c) = l.takeWhile (goCls c) ∧ (l.map feed).dropWhile (goCls c) = (l.dropWhile (goCls c)).map feed
  | [] => ⟨rfl, rfl⟩
  | a :: r => by
    have ih := takeWhile_feed hc r
    have hg : goCls c (feed a) = goCls c a := by unfold goCls; rw [cls_feed]
    rw [List.map_cons, List.takeWhile_cons, List.dropWhile_cons, List.takeWhile_cons, List.dropWhile_cons, hg]
    cases hp : goCls c a
    · exact ⟨rfl, by simp⟩
    · simp only [if_true]
      have h4 : cls a.toNat ≠ 4 := by
        unfold goCls at hp
        rw [Bool.and_eq_true, beq_iff_eq] at hp
        rw [hp.1]; exact hc
      exact ⟨by rw [ih.1, feed_id h4], ih.2⟩
theorem cutL_feed (n : Nat) : ∀ (a : List UInt8), a.length ≤ n → cutL (a.map feed) = cutL a := by
  induction n with
  | zero =>
    intro a ha
    have : a = [] := List.eq_nil_of_length_eq_zero (by omega)
    subst this
    rfl
  | succ n ih =>
    intro a ha
    cases a with
    | nil => rfl
    | cons x r =>
      rw [List.length_cons] at ha
      rw [List.map_cons, cutL_cons, cutL_cons x r, cls_feed]
      by_cases h4 : cls x.toNat = 4
      · rw [if_pos h4, if_pos h4, ih r (by omega)]
      · have hs := takeWhile_feed h4 r
        have hd := dropWhile_le (goCls (cls x.toNat)) r
        rw [if_neg h4, if_neg h4, hs.1, hs.2, ih _ (by omega), feed_id h4]

theorem len_list (s : ByteArray) : s.data.toList.length = s.size := by simp
/-- Scanning upon the list. -/
theorem scan_list (s : ByteArray) (p : UInt8 → Bool) : ∀ n k, s.size - k ≤ n → k ≤ s.size →
    (s.data.toList.drop k).takeWhile p = (s.data.toList.drop k).take (scanP s p k - k) ∧ (s.data.toList.drop k).dropWhile p = s.data.toList.drop (scanP s p k) := by
  intro n
  induction n with
  | zero =>
    intro k h1 h2
    have hk : k = s.size := by omega
    have e : scanP s p k = k := scanP_stop (fun h => absurd h (by omega))
    have hd : s.data.toList.drop k = [] := List.drop_eq_nil_of_le (by rw [len_list]; omega)
    rw [e, hd]
    exact ⟨by simp, by simp⟩
  | succ n ih =>
    intro k h1 h2
    by_cases hk : k < s.size
    · have hk' : k < s.data.toList.length := by rw [len_list]; exact hk
      have hd : s.data.toList.drop k = s[k] :: s.data.toList.drop (k + 1) := by
        rw [List.drop_eq_getElem_cons hk']
        rfl
      have ih' := ih (k + 1) (by omega) hk
      by_cases hp : p s[k] = true
      · have e := scanP_step hk hp
        have hbd := (scanP_bd (p := p) (show k + 1 ≤ s.size from hk)).1
        rw [e, hd, List.takeWhile_cons, List.dropWhile_cons, if_pos hp, if_pos hp, ih'.1, ih'.2]
        refine ⟨?_, rfl⟩
        rw [show scanP s p (k + 1) - k = (scanP s p (k + 1) - (k + 1)) + 1 by omega, List.take_succ_cons]
      · have e : scanP s p k = k := scanP_stop (fun _ => by simpa using hp)
        rw [e, hd, List.takeWhile_cons, List.dropWhile_cons, if_neg hp, if_neg hp]
        exact ⟨by simp, rfl⟩
    · have hk2 : k = s.size := by omega
      have e : scanP s p k = k := scanP_stop (fun h => absurd h (by omega))
      have hd : s.data.toList.drop k = [] := List.drop_eq_nil_of_le (by rw [len_list]; omega)
      rw [e, hd]
      exact ⟨by simp, by simp⟩
theorem extract_list (s : ByteArray) (i j : Nat) : (s.extract i j).data.toList = (s.data.toList.drop i).take (j - i) := by
  rw [ByteArray.data_extract, Array.toList_extract]
theorem bytes_ext {a b : ByteArray} (h : a.data.toList = b.data.toList) : a = b := by
  cases a with | mk x => cases b with | mk y =>
  have : x.toList = y.toList := h
  rw [Array.toList_inj] at this
  rw [this]
theorem cutF_list (s : ByteArray) : ∀ n i, s.size - i ≤ n → cutF s i = cutL (s.data.toList.drop i) := by
  intro n
  induction n with
  | zero =>
    intro i h
    have hd : s.data.toList.drop i = [] := List.drop_eq_nil_of_le (by rw [len_list]; omega)
    rw [cutF_end (by omega), hd, cutL_nil]
  | succ n ih =>
    intro i h
    by_cases hi : i < s.size
    · have hi' : i < s.data.toList.length := by rw [len_list]; exact hi
      have hd : s.data.toList.drop i = s[i] :: s.data.toList.drop (i + 1) := by
        rw [List.drop_eq_getElem_cons hi']
        rfl
      have hb := endC_bd hi
      have hsl := scan_list s (goCls (cls s[i].toNat)) _ (i + 1) (Nat.le_refl _) hi
      have hw : s.extract i (endC s i hi) = ⟨(s[i] :: (s.data.toList.drop (i + 1)).takeWhile (goCls (cls s[i].toNat))).toArray⟩ := by
        apply bytes_ext
        rw [extract_list, hd, hsl.1]
        show _ = s[i] :: _
        rw [show endC s i hi - i = (endC s i hi - (i + 1)) + 1 by omega, List.take_succ_cons]
        rfl
      rw [cutF_step hi, hd, cutL_cons, ih (i + 1) (by omega), ih (endC s i hi) (by omega), hw, hsl.2]
      rfl
    · have hd : s.data.toList.drop i = [] := List.drop_eq_nil_of_le (by rw [len_list]; omega)
      rw [cutF_end hi, hd, cutL_nil]
theorem cut_list (s : ByteArray) : cutF s 0 = cutL s.data.toList := cutF_list s _ 0 (Nat.le_refl _)
end Go.Proofs.YtkhcfhhejmkikaaGreatDoor
