/-
  Words put behind a list by the program, by their texts: addTexts.
-/
import Derived.Test.YtoepehlndljkoaaDoorF8
import Derived.Test.YtoepehlndljkoaaDoorC6
namespace Go.Proofs.YtoepehlndljkoaaDoor
open Go.RowKit Go.Maps
set_option maxRecDepth 100000

theorem runKind_sign {b : UInt8} (h : cls b.toNat = 3) : runKind ⟨#[b]⟩ = 3 := by
  have hk : isKeyB ⟨#[b]⟩ = false := by simp [isKeyB, keyL]
  unfold runKind
  rw [hk, if_neg (by simp), dif_pos (show 0 < (⟨#[b]⟩ : ByteArray).size from Nat.zero_lt_one)]
  have e : (⟨#[b]⟩ : ByteArray)[0]'(Nat.zero_lt_one) = b := rfl
  rw [e, kindN_cls _ (by have := b.toNat_lt; omega), h]
  rfl
theorem runKind_sgn {op : Int} (h : 3 ≤ op ∧ op ≤ 12) : runKind (sgnS op) = 3 := runKind_sign (sgn_cls h)
open Classical in
theorem runKind_name {s : ByteArray} (h : nameB s = true) : runKind s = 1 := by
  unfold nameB at h
  simp only [Bool.and_eq_true, Bool.not_eq_true'] at h
  obtain ⟨⟨h1, _⟩, h3⟩ := h
  unfold allB at h1
  rw [decide_eq_true_eq] at h1
  unfold runKind
  rw [h3, if_neg (by simp), dif_pos h1.1]
  have hc := h1.2 0 h1.1 h1.1
  exact (kindN_one _).2 hc
theorem runKind_num : ∀ m < 256, runKind (decS m) = 2 := by decide +kernel
open Classical in
theorem name_pos {s : ByteArray} (h : nameB s = true) : 0 < s.size := by
  unfold nameB at h
  simp only [Bool.and_eq_true] at h
  have h1 := h.1.1
  unfold allB at h1
  rw [decide_eq_true_eq] at h1
  exact h1.1
theorem dec_pos : ∀ m < 256, 0 < (decS m).size := by decide +kernel
theorem WRow.below {w w' : World} {base : Nat} {v : Value} {l : List W} (h : WRow w base v l) (hb : Below w.heap.size w w') : WRow w' base v l :=
  World.ownsRow.kept (row := none) h ⟨hb.os, hb.tape, hb.output, hb.size, fun i hi _ => hb.block i hi⟩ (Classical.em _)
theorem WRow.nil (w : World) (base : Nat) : WRow w base (.slice none 0 0) [] := ⟨rfl, .inl ⟨rfl, rfl⟩⟩
theorem Put.ne {base : Nat} {v v' : Value} {w w' : World} (h : Put base v v' w w') {k : Nat} (hk : k < w.heap.size) (hne : v.ownBlock ≠ some k) : v'.ownBlock ≠ some k := by
  rcases h.own with e | ⟨g, e, hg⟩
  · rw [e]; exact hne
  · rw [e]; intro e2; injection e2 with e2; omega
/-- What the world keeps for a callee. -/
def Env (base : Nat) (w : World) : Prop := base ≤ w.heap.size ∧ ∀ W, Below base w W → Sgn W ∧ Lib.TabIs Tryd.prog W "internal/strconv.uint64pow10" .u64 Lib.pow10Tab ∧ Tabs W
theorem Env.next {base : Nat} {w w' : World} (h : Env base w) (hb : Below base w w') : Env base w' := ⟨Nat.le_trans h.1 hb.size, fun W hw => h.2 W (hb.trans hw)⟩
/-- Texts as words. -/
def wd (t : ByteArray) : W := (runKind t, t)
set_option maxHeartbeats 4000000 in
theorem addTexts_any (base g cap : Nat) (v : Value) (l : List W) (ts : List ByteArray) (w : World) (hW : WRow w base v l) (hE : Env base w) (hg : v.ownBlock ≠ some g) (hgl : g < w.heap.size)
    (hc : ∀ k, (h : k < ts.length) → w.cell? ⟨g, k, none⟩ = some (.string ts[k])) (h0 : ∀ t ∈ ts, 0 < t.size) (hl : l.length + ts.length ≤ 1000001) :
    Calls Tryd.prog 34 #[v, .slice (some ⟨g, 0, none⟩) ts.length cap] w (AddRet base v (l ++ ts.map wd) w) := by
  obtain ⟨i0, hi, hz0, hz1, hz2⟩ := info_parts wordInfo
  have HW := Lib.hid hW
  have HE := Lib.hid hE
  have HC := Lib.hid hc
  have H0 := Lib.hid h0
  have hbs := hE.1
  have HP0 := Lib.hid (Put.of_below (v := v) (Below.refl _ w) hbs)
  clear hW hE hc h0
  go_enter Tryd.func34, Tryd.ntmps34
  go_wp2_with fail
  go_loopw [0, 9] (fun q i wr => ∃ k : Nat, k ≤ ts.length ∧ i = .int .i64 k ∧ WRow wr base q (l ++ (ts.take k).map wd) ∧ Put base v q w wr) (fun _ i _ => ts.length - (intOf i).toNat)
  case atStart => exact ⟨0, Nat.zero_le _, rfl, by rw [List.take_zero, List.map_nil, List.append_nil]; exact HW.out, HP0.out⟩
  case round =>
    obtain ⟨k, hk, rfl, hWr, hP⟩ := hrel
    have HWr := Lib.hid hWr
    have HP := Lib.hid hP
    have hbw := hP.below
    have hbr := Nat.le_trans hbs hbw.size
    by_cases hlk : k < ts.length
    · have c0 := (hP.cell (o := k) hgl hg).trans (HC.out k hlk)
      have hpos := H0.out _ (List.getElem_mem hlk)
      have WO := Lib.hid (wordOf_any ts[k] wr hpos ((HE.out.2 wr hbw).2.2))
      have HN := Lib.hid (show l ++ (ts.take (k + 1)).map wd = (l ++ (ts.take k).map wd) ++ [(runKind ts[k], ts[k])] by rw [List.take_succ_eq_append_getElem hlk, List.map_append, List.append_assoc]; rfl)
      have hlen : (l ++ (ts.take k).map wd).length ≤ 1000000 := by rw [List.length_append, List.length_map, List.length_take]; omega
      have HLEN := Lib.hid hlen
      clear hWr hP hpos hlen
      generalize ts[k] = t at *
      generalize runKind t = z at *
      generalize l ++ (ts.take k).map wd = lk at *
      go_wp2_with fail
      (with_reducible refine Calls.mono WO.out ?_)
      rintro ee w1 ⟨rfl, hb1⟩
      have HW1 := Lib.hid (HWr.out.below hb1)
      have hbs1 : base ≤ w1.heap.size := Nat.le_trans hbr hb1.size
      have HP1 := Lib.hid (HP.out.trans (Put.of_below hb1 hbr))
      have HNW := Lib.hid (new_word' w1 z t)
      have HTO := Lib.hid (wordOne' z t)
      have hbz : base ≤ (w1.alloc (.cells #[.int .i64 z, .string t] 54)).heap.size := by rw [World.size_alloc]; omega
      have hln : lk.length ≤ 1000000 := HLEN.out
      clear hb1 c0
      go_wp2_with (at_builtin; refine wpList_append_own_at _ rfl _ _ 43 rfl base 54 i0 (.agg #[.int .i64 0, .string ⟨#[]⟩]) 2 24 Tryd.underlying43 hi hz0 hz1 hz2 rfl (by decide) _ lk.length (wordCells lk) rfl (World.ownsRow.alloc HW1.out _) ⟨w1.heap.size, 0, none⟩ 1 1 [.int .i64 z, .string t] rfl rfl HNW.out HTO.out (by unfold maxLen; omega) (by omega) hbz ?_; intro v2 w2 hown2 hgrow2 _ hat2)
      have HA := Lib.hid (put_append HW1.out hbs1 hown2 hgrow2 hat2)
      clear hown2 hgrow2 hat2
      go_wp2_with fail
      go_roundw
      case rel => exact ⟨k + 1, by omega, by go_num, by rw [HN.out]; exact HA.out.1, HP1.out.trans HA.out.2⟩
      case measure => simp only [intOf]; omega
    · obtain rfl : k = ts.length := by omega
      rw [List.take_length] at hWr
      have HF := Lib.hid hWr
      clear hWr hP
      go_wp2_with fail
      go_ret
      exact ⟨_, rfl, HF.out, HP.out⟩
/-- One text, in a block of its own that was just made. -/
theorem addText_one (base : Nat) (v : Value) (l : List W) (t : ByteArray) (z : Int) (w : World) (hW : WRow w base v l) (hE : Env base w) (h0 : 0 < t.size) (hz : runKind t = z) (hl : l.length ≤ 1000000) :
    Calls Tryd.prog 34 #[v, .slice (some ⟨w.heap.size, 0, none⟩) 1 1] (w.alloc (.cells #[.string t] 9)) (AddRet base v (l ++ [(z, t)]) w) := by
  subst hz
  have hal := (Below.refl w.heap.size w).alloc (Nat.le_refl _) (.cells #[.string t] 9)
  have hbs := hE.1
  refine (addTexts_any base w.heap.size 1 v l [t] _ (hW.below hal) (hE.next (hal.mono hbs)) (hW.free (Nat.le_refl _)) (by rw [World.size_alloc]; omega) (fun k hk => ?_) (fun x hx => by simp at hx; subst hx; exact h0) (by simp only [List.length_cons, List.length_nil]; omega)).mono ?_
  · obtain rfl : k = 0 := by simpa using hk
    exact alloc_cell w #[.string t] 9 (0, 0) 0
  · rintro ee w' ⟨v', he, h1, h2⟩
    exact ⟨v', he, h1, (Put.of_below hal hbs).trans h2⟩
/-- Two texts, in a block of their own that was just made. -/
theorem addText_two (base : Nat) (v : Value) (l : List W) (t u : ByteArray) (z y : Int) (w : World) (hW : WRow w base v l) (hE : Env base w) (h0 : 0 < t.size) (h1 : 0 < u.size) (hz : runKind t = z) (hy : runKind u = y) (hl : l.length ≤ 999999) :
    Calls Tryd.prog 34 #[v, .slice (some ⟨w.heap.size, 0, none⟩) 2 2] (w.alloc (.cells #[.string t, .string u] 9)) (AddRet base v (l ++ [(z, t), (y, u)]) w) := by
  subst hz
  subst hy
  have hal := (Below.refl w.heap.size w).alloc (Nat.le_refl _) (.cells #[.string t, .string u] 9)
  have hbs := hE.1
  refine (addTexts_any base w.heap.size 2 v l [t, u] _ (hW.below hal) (hE.next (hal.mono hbs)) (hW.free (Nat.le_refl _)) (by rw [World.size_alloc]; omega) (fun k hk => ?_) (fun x hx => by
    rcases List.mem_cons.1 hx with rfl | hx
    · exact h0
    · simp at hx; subst hx; exact h1) (by simp only [List.length_cons, List.length_nil]; omega)).mono ?_
  · have hk' : k = 0 ∨ k = 1 := by have : k < 2 := hk; omega
    rcases hk' with rfl | rfl
    · exact alloc_cell w #[.string t, .string u] 9 (0, 0) 0
    · exact alloc_cell w #[.string t, .string u] 9 (0, 0) 1
  · rintro ee w' ⟨v', he, h1, h2⟩
    exact ⟨v', he, h1, (Put.of_below hal hbs).trans h2⟩
end Go.Proofs.YtoepehlndljkoaaDoor
