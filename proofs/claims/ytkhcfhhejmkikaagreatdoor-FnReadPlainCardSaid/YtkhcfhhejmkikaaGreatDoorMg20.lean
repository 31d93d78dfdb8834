/-
  Words put behind a list by the program: a Kid with its brackets.
-/
import Derived.Test.YtkhcfhhejmkikaaGreatDoorMg16
import Derived.Test.YtkhcfhhejmkikaaGreatDoorMg19
import Derived.Deep.RegionWith
namespace Go.Proofs.YtkhcfhhejmkikaaGreatDoor
open Go.RowKit Go.Maps
set_option maxRecDepth 100000

theorem runKind_sign {b : UInt8} (h : cls b.toNat = 3) : runKind ⟨#[b]⟩ = 3 := by
  have hk : isKeyB ⟨#[b]⟩ = false := by simp [isKeyB, keyL]
  unfold runKind
  rw [hk, if_neg (by simp), dif_pos (show 0 < (⟨#[b]⟩ : ByteArray).size from Nat.zero_lt_one)]
  have e : (⟨#[b]⟩ : ByteArray)[0]'(Nat.zero_lt_one) = b := rfl
  rw [e, kindN_cls _ (by have := b.toNat_lt; omega), h]
  rfl
theorem runKind_sgn {op : Int} (h : 3 ≤ op ∧ op ≤ 12) : runKind (sgnS op) = 3 := runKind_sign (sgn_cls h)
open Classical in
theorem runKind_name {s : ByteArray} (h : nameB s = true) : runKind s = 1 := by
  unfold nameB at h
  simp only [Bool.and_eq_true, Bool.not_eq_true'] at h
  obtain ⟨⟨h1, _⟩, h3⟩ := h
  unfold allB at h1
  rw [decide_eq_true_eq] at h1
  unfold runKind
  rw [h3, if_neg (by simp), dif_pos h1.1]
  have hc := h1.2 0 h1.1 h1.1
  exact (kindN_one _).2 hc
theorem runKind_num : ∀ m < 256, runKind (decS m) = 2 := by decide +kernel
open Classical in
theorem name_pos {s : ByteArray} (h : nameB s = true) : 0 < s.size := by
  unfold nameB at h
  simp only [Bool.and_eq_true] at h
  have h1 := h.1.1
  unfold allB at h1
  rw [decide_eq_true_eq] at h1
  exact h1.1
theorem dec_pos : ∀ m < 256, 0 < (decS m).size := by decide +kernel
theorem WRow.below {w w' : World} {base : Nat} {v : Value} {l : List W} (h : WRow w base v l) (hb : Below w.heap.size w w') : WRow w' base v l :=
  World.ownsRow.kept (row := none) h ⟨hb.os, hb.tape, hb.output, hb.size, fun i hi _ => hb.block i hi⟩ (Classical.em _)
theorem WRow.nil (w : World) (base : Nat) : WRow w base (.slice none 0 0) [] := ⟨rfl, .inl ⟨rfl, rfl⟩⟩
theorem Put.ne {base : Nat} {v v' : Value} {w w' : World} (h : Put base v v' w w') {k : Nat} (hk : k < w.heap.size) (hne : v.ownBlock ≠ some k) : v'.ownBlock ≠ some k := by
  rcases h.own with e | ⟨g, e, hg⟩
  · rw [e]; exact hne
  · rw [e]; intro e2; injection e2 with e2; omega
/-- What the world keeps for a callee. -/
def Env (base : Nat) (w : World) : Prop := base ≤ w.heap.size ∧ ∀ W, Below base w W → Sgn W ∧ Lib.TabIs Tryz.prog W "internal/strconv.uint64pow10" .u64 Lib.pow10Tab ∧ Tabs W
theorem Env.next {base : Nat} {w w' : World} (h : Env base w) (hb : Below base w w') : Env base w' := ⟨Nat.le_trans h.1 hb.size, fun W hw => h.2 W (hb.trans hw)⟩
/-- Texts as words. -/
def wd (t : ByteArray) : W := (runKind t, t)
set_option maxHeartbeats 4000000 in
theorem addTexts_any (base g cap : Nat) (v : Value) (l : List W) (ts : List ByteArray) (w : World) (hW : WRow w base v l) (hE : Env base w) (hg : v.ownBlock ≠ some g) (hgl : g < w.heap.size)
    (hc : ∀ k, (h : k < ts.length) → w.cell? ⟨g, k, none⟩ = some (.string ts[k])) (h0 : ∀ t ∈ ts, 0 < t.size) (hl : l.length + ts.length ≤ 1000001) :
    Calls Tryz.prog 71 #[v, .slice (some ⟨g, 0, none⟩) ts.length cap] w (AddRet base v (l ++ ts.map wd) w) := by
  obtain ⟨i0, hi, hz0, hz1, hz2⟩ := info_parts wordInfo
  have HW := Lib.hid hW
  have HE := Lib.hid hE
  have HC := Lib.hid hc
  have H0 := Lib.hid h0
  have hbs := hE.1
  have HP0 := Lib.hid (Put.of_below (v := v) (Below.refl _ w) hbs)
  clear hW hE hc h0
  go_enter Tryz.func71, Tryz.ntmps71
  go_wp2_with fail
  go_loopw [0, 9] (fun q i wr => ∃ k : Nat, k ≤ ts.length ∧ i = .int .i64 k ∧ WRow wr base q (l ++ (ts.take k).map wd) ∧ Put base v q w wr) (fun _ i _ => ts.length - (intOf i).toNat)
  case atStart => exact ⟨0, Nat.zero_le _, rfl, by rw [List.take_zero, List.map_nil, List.append_nil]; exact HW.out, HP0.out⟩
  case round =>
    obtain ⟨k, hk, rfl, hWr, hP⟩ := hrel
    have HWr := Lib.hid hWr
    have HP := Lib.hid hP
    have hbw := hP.below
    have hbr := Nat.le_trans hbs hbw.size
    by_cases hlk : k < ts.length
    · have c0 := (hP.cell (o := k) hgl hg).trans (HC.out k hlk)
      have hpos := H0.out _ (List.getElem_mem hlk)
      have WO := Lib.hid (wordOf_any ts[k] wr hpos ((HE.out.2 wr hbw).2.2))
      have HN := Lib.hid (show l ++ (ts.take (k + 1)).map wd = (l ++ (ts.take k).map wd) ++ [(runKind ts[k], ts[k])] by rw [List.take_succ_eq_append_getElem hlk, List.map_append, List.append_assoc]; rfl)
      have hlen : (l ++ (ts.take k).map wd).length ≤ 1000000 := by rw [List.length_append, List.length_map, List.length_take]; omega
      have HLEN := Lib.hid hlen
      clear hWr hP hpos hlen
      generalize ts[k] = t at *
      generalize runKind t = z at *
      generalize l ++ (ts.take k).map wd = lk at *
      go_wp2_with fail
      (with_reducible refine Calls.mono WO.out ?_)
      rintro ee w1 ⟨rfl, hb1⟩
      have HW1 := Lib.hid (HWr.out.below hb1)
      have hbs1 : base ≤ w1.heap.size := Nat.le_trans hbr hb1.size
      have HP1 := Lib.hid (HP.out.trans (Put.of_below hb1 hbr))
      have HNW := Lib.hid (new_word' w1 z t)
      have HTO := Lib.hid (wordOne' z t)
      have hbz : base ≤ (w1.alloc (.cells #[.int .i64 z, .string t] 76)).heap.size := by rw [World.size_alloc]; omega
      have hln : lk.length ≤ 1000000 := HLEN.out
      clear hb1 c0
      go_wp2_with (at_builtin; refine wpList_append_own_at _ rfl _ _ 38 rfl base 76 i0 (.agg #[.int .i64 0, .string ⟨#[]⟩]) 2 24 Tryz.underlying38 hi hz0 hz1 hz2 rfl (by decide) _ lk.length (wordCells lk) rfl (World.ownsRow.alloc HW1.out _) ⟨w1.heap.size, 0, none⟩ 1 1 [.int .i64 z, .string t] rfl rfl HNW.out HTO.out (by unfold maxLen; omega) (by omega) hbz ?_; intro v2 w2 hown2 hgrow2 _ hat2)
      have HA := Lib.hid (put_append HW1.out hbs1 hown2 hgrow2 hat2)
      clear hown2 hgrow2 hat2
      go_wp2_with fail
      go_roundw
      case rel => exact ⟨k + 1, by omega, by go_num, by rw [HN.out]; exact HA.out.1, HP1.out.trans HA.out.2⟩
      case measure => simp only [intOf]; omega
    · obtain rfl : k = ts.length := by omega
      rw [List.take_length] at hWr
      have HF := Lib.hid hWr
      clear hWr hP
      go_wp2_with fail
      go_ret
      exact ⟨_, rfl, HF.out, HP.out⟩
/-- One text, in a block of its own that was just made. -/
theorem addText_one (base : Nat) (v : Value) (l : List W) (t : ByteArray) (z : Int) (w : World) (hW : WRow w base v l) (hE : Env base w) (h0 : 0 < t.size) (hz : runKind t = z) (hl : l.length ≤ 1000000) :
    Calls Tryz.prog 71 #[v, .slice (some ⟨w.heap.size, 0, none⟩) 1 1] (w.alloc (.cells #[.string t] 9)) (AddRet base v (l ++ [(z, t)]) w) := by
  subst hz
  have hal := (Below.refl w.heap.size w).alloc (Nat.le_refl _) (.cells #[.string t] 9)
  have hbs := hE.1
  refine (addTexts_any base w.heap.size 1 v l [t] _ (hW.below hal) (hE.next (hal.mono hbs)) (hW.free (Nat.le_refl _)) (by rw [World.size_alloc]; omega) (fun k hk => ?_) (fun x hx => by simp at hx; subst hx; exact h0) (by simp only [List.length_cons, List.length_nil]; omega)).mono ?_
  · obtain rfl : k = 0 := by simpa using hk
    exact alloc_cell w #[.string t] 9 (0, 0) 0
  · rintro ee w' ⟨v', he, h1, h2⟩
    exact ⟨v', he, h1, (Put.of_below hal hbs).trans h2⟩
/-- Two texts, in a block of their own that was just made. -/
theorem addText_two (base : Nat) (v : Value) (l : List W) (t u : ByteArray) (z y : Int) (w : World) (hW : WRow w base v l) (hE : Env base w) (h0 : 0 < t.size) (h1 : 0 < u.size) (hz : runKind t = z) (hy : runKind u = y) (hl : l.length ≤ 999999) :
    Calls Tryz.prog 71 #[v, .slice (some ⟨w.heap.size, 0, none⟩) 2 2] (w.alloc (.cells #[.string t, .string u] 9)) (AddRet base v (l ++ [(z, t), (y, u)]) w) := by
  subst hz
  subst hy
  have hal := (Below.refl w.heap.size w).alloc (Nat.le_refl _) (.cells #[.string t, .string u] 9)
  have hbs := hE.1
  refine (addTexts_any base w.heap.size 2 v l [t, u] _ (hW.below hal) (hE.next (hal.mono hbs)) (hW.free (Nat.le_refl _)) (by rw [World.size_alloc]; omega) (fun k hk => ?_) (fun x hx => by
    rcases List.mem_cons.1 hx with rfl | hx
    · exact h0
    · simp at hx; subst hx; exact h1) (by simp only [List.length_cons, List.length_nil]; omega)).mono ?_
  · have hk' : k = 0 ∨ k = 1 := by have : k < 2 := hk; omega
    rcases hk' with rfl | rfl
    · exact alloc_cell w #[.string t, .string u] 9 (0, 0) 0
    · exact alloc_cell w #[.string t, .string u] 9 (0, 0) 1
  · rintro ee w' ⟨v', he, h1, h2⟩
    exact ⟨v', he, h1, (Put.of_below hal hbs).trans h2⟩
end Go.Proofs.YtkhcfhhejmkikaaGreatDoor

namespace Go.Proofs.YtkhcfhhejmkikaaGreatDoor
open Go.RowKit Go.Maps
set_option maxRecDepth 100000

theorem Bx4.put {w w' : World} {base k : Nat} {v v' v0 v1 v2 v3 : Value} (h : Bx4 w k v0 v1 v2 v3) (hp : Put base v v' w w') (hk : k < w.heap.size) (hne : v.ownBlock ≠ some k) : Bx4 w' k v0 v1 v2 v3 :=
  ⟨(hp.cell hk hne).trans h.1, (hp.cell hk hne).trans h.2.1, (hp.cell hk hne).trans h.2.2.1, (hp.cell hk hne).trans h.2.2.2⟩
/-- The block with the closing bracket. -/
def Gf (v : Value) (g : Nat) (w : World) : Prop := w.cell? ⟨g, 0, none⟩ = some (.string ⟨#[41]⟩) ∧ v.ownBlock ≠ some g ∧ g < w.heap.size
theorem Gf.put {v v' : Value} {g base : Nat} {a b : World} (h : Gf v g a) (hp : Put base v v' a b) : Gf v' g b :=
  ⟨(hp.cell h.2.2 h.2.1).trans h.1, hp.ne h.2.2 h.2.1, Nat.lt_of_lt_of_le h.2.2 hp.below.size⟩
/-- Behind the first bracket. -/
def Lp1 (base : Nat) (v : Value) (l : List W) (W0 : World) (k : Nat) (a b c d : Value) (ee : Ending) (w1 : World) : Prop :=
  ∃ v1, ee = .returned v1 ∧ WRow w1 base v1 (l ++ [(3, ⟨#[40]⟩)]) ∧ Put base v v1 W0 w1 ∧ Bx4 w1 k a b c d ∧ Bx4 (w1.alloc (.cells #[.string ⟨#[41]⟩] 9)) k a b c d
def Lp2 (base : Nat) (v : Value) (l : List W) (W0 : World) (k g : Nat) (a b c d : Value) (ee : Ending) (w1 : World) : Prop :=
  ∃ v1, ee = .returned v1 ∧ WRow w1 base v1 (l ++ [(3, ⟨#[40]⟩)]) ∧ Put base v v1 W0 w1 ∧ Bx4 w1 k a b c d ∧ Gf v1 g w1
theorem kind_lp : runKind ⟨#[40]⟩ = 3 := runKind_sign (by decide)
theorem kind_rp : runKind ⟨#[41]⟩ = 3 := runKind_sign (by decide)
theorem kind_cm : runKind ⟨#[44]⟩ = 3 := runKind_sign (by decide)
theorem Bx4.grow {w : World} {k : Nat} {a b c d : Value} (h : Bx4 w k a b c d) (hk : k < w.heap.size) (o : Obj) : Bx4 (w.alloc o) k a b c d := h.below ((Below.refl w.heap.size w).alloc (Nat.le_refl _) o) hk
theorem lp_a (base : Nat) (v : Value) (l : List W) (w : World) (k : Nat) (a b c d : Value) (hW : WRow w base v l) (hE : Env base w) (hl : l.length ≤ 1000000) (hB : Bx4 w k a b c d) (hk : k < w.heap.size) (hne : v.ownBlock ≠ some k) :
    Calls Tryz.prog 71 #[v, .slice (some ⟨w.heap.size, 0, none⟩) 1 1] (w.alloc (.cells #[.string ⟨#[40]⟩] 9)) (Lp1 base v l w k a b c d) :=
  (addText_one base v l ⟨#[40]⟩ 3 w hW hE (by decide) kind_lp hl).mono fun ee w' ⟨v', h1, h2, h3⟩ => ⟨v', h1, h2, h3, hB.put h3 hk hne, (hB.put h3 hk hne).grow (Nat.lt_of_lt_of_le hk h3.below.size) _⟩
theorem lp_b (base : Nat) (v : Value) (l : List W) (w : World) (k : Nat) (a b c d : Value) (hW : WRow w base v l) (hE : Env base w) (hl : l.length ≤ 1000000) (hB : Bx4 w k a b c d) (hk : k < w.heap.size) (hne : v.ownBlock ≠ some k) :
    Calls Tryz.prog 71 #[v, .slice (some ⟨w.heap.size + 1, 0, none⟩) 1 1] ((w.alloc (.cells #[.string ⟨#[41]⟩] 9)).alloc (.cells #[.string ⟨#[40]⟩] 9)) (Lp2 base v l w k w.heap.size a b c d) := by
  have hal := (Below.refl w.heap.size w).alloc (Nat.le_refl _) (.cells #[.string ⟨#[41]⟩] 9)
  have hz : (w.alloc (.cells #[.string ⟨#[41]⟩] 9)).heap.size = w.heap.size + 1 := World.size_alloc _ _
  have C := addText_one base v l ⟨#[40]⟩ 3 (w.alloc (.cells #[.string ⟨#[41]⟩] 9)) (hW.below hal) (hE.next (hal.mono hE.1)) (by decide) kind_lp hl
  rw [hz] at C
  have hg : Gf v w.heap.size (w.alloc (.cells #[.string ⟨#[41]⟩] 9)) := ⟨alloc_cell w _ _ (0, 0) 0, hW.free (Nat.le_refl _), by omega⟩
  exact C.mono fun ee w' ⟨v', h1, h2, h3⟩ => ⟨v', h1, h2, (Put.of_below hal hE.1).trans h3, (hB.grow hk _).put h3 (by omega) hne, hg.put h3⟩
theorem lp_c (base : Nat) (v : Value) (l : List W) (w : World) (k : Nat) (a b c d : Value) (hW : WRow w base v l) (hE : Env base w) (hl : l.length ≤ 1000000) (hB : Bx4 w k a b c d) (hk : k < w.heap.size) (hne : v.ownBlock ≠ some k) :
    Calls Tryz.prog 71 #[v, .slice (some ⟨w.heap.size, 0, none⟩) 1 1] ((w.alloc (.cells #[.string ⟨#[40]⟩] 9)).alloc (.cells #[.string ⟨#[41]⟩] 9)) (Lp2 base v l w k (w.heap.size + 1) a b c d) := by
  have hal := (Below.refl w.heap.size w).alloc (Nat.le_refl _) (.cells #[.string ⟨#[40]⟩] 9)
  have hz : (w.alloc (.cells #[.string ⟨#[40]⟩] 9)).heap.size = w.heap.size + 1 := World.size_alloc _ _
  have hal2 := hal.trans (((Below.refl (w.alloc (.cells #[.string ⟨#[40]⟩] 9)).heap.size (w.alloc (.cells #[.string ⟨#[40]⟩] 9))).alloc (Nat.le_refl _) (.cells #[.string ⟨#[41]⟩] 9)).mono hal.size)
  have hz2 : ((w.alloc (.cells #[.string ⟨#[40]⟩] 9)).alloc (.cells #[.string ⟨#[41]⟩] 9)).heap.size = w.heap.size + 1 + 1 := by rw [World.size_alloc, hz]
  have c0 : ((w.alloc (.cells #[.string ⟨#[40]⟩] 9)).alloc (.cells #[.string ⟨#[41]⟩] 9)).cell? ⟨w.heap.size, 0, none⟩ = some (.string ⟨#[40]⟩) :=
    (((Below.refl (w.alloc (.cells #[.string ⟨#[40]⟩] 9)).heap.size _).alloc (Nat.le_refl _) _).cell (p := ⟨w.heap.size, 0, none⟩) (by show w.heap.size < _; omega)).trans (alloc_cell w _ _ (0, 0) 0)
  have c1 : ((w.alloc (.cells #[.string ⟨#[40]⟩] 9)).alloc (.cells #[.string ⟨#[41]⟩] 9)).cell? ⟨w.heap.size + 1, 0, none⟩ = some (.string ⟨#[41]⟩) := by
    have h := alloc_cell (w.alloc (.cells #[.string ⟨#[40]⟩] 9)) #[.string ⟨#[41]⟩] 9 (0, 0) 0
    rw [hz] at h
    exact h
  have hg : Gf v (w.heap.size + 1) ((w.alloc (.cells #[.string ⟨#[40]⟩] 9)).alloc (.cells #[.string ⟨#[41]⟩] 9)) := ⟨c1, hW.free (Nat.le_succ _), by omega⟩
  have C := addTexts_any base w.heap.size 1 v l [⟨#[40]⟩] _ (hW.below hal2) (hE.next (hal2.mono hE.1)) (hW.free (Nat.le_refl _)) (by omega) (fun j hj => by
    obtain rfl : j = 0 := by simpa using hj
    exact c0) (fun x hx => by simp at hx; subst hx; decide) (by simp only [List.length_cons, List.length_nil]; omega)
  exact C.mono fun ee w' ⟨v', h1, h2, h3⟩ => ⟨v', h1, by rw [← kind_lp]; exact h2, (Put.of_below hal2 hE.1).trans h3, (hB.below hal2 hk).put h3 (by omega) hne, hg.put h3⟩
/-- The closing bracket, out of a block that was there. -/
theorem rp_known (base g : Nat) (v : Value) (l : List W) (w : World) (hW : WRow w base v l) (hE : Env base w) (hg : Gf v g w) (hl : l.length ≤ 1000000) :
    Calls Tryz.prog 71 #[v, .slice (some ⟨g, 0, none⟩) 1 1] w (AddRet base v (l ++ [(3, ⟨#[41]⟩)]) w) := by
  have C := addTexts_any base g 1 v l [⟨#[41]⟩] w hW hE hg.2.1 hg.2.2 (fun j hj => by
    obtain rfl : j = 0 := by simpa using hj
    exact hg.1) (fun x hx => by simp at hx; subst hx; decide) (by simp only [List.length_cons, List.length_nil]; omega)
  rw [show ([⟨#[41]⟩] : List ByteArray).map wd = [(3, ⟨#[41]⟩)] by show [wd ⟨#[41]⟩] = _; unfold wd; rw [kind_rp]] at C
  exact C
theorem rp_new (base : Nat) (v : Value) (l : List W) (w : World) (hW : WRow w base v l) (hE : Env base w) (hl : l.length ≤ 1000000) :
    Calls Tryz.prog 71 #[v, .slice (some ⟨w.heap.size, 0, none⟩) 1 1] (w.alloc (.cells #[.string ⟨#[41]⟩] 9)) (AddRet base v (l ++ [(3, ⟨#[41]⟩)]) w) :=
  addText_one base v l ⟨#[41]⟩ 3 w hW hE (by decide) kind_rp hl
/-- A number, and new blocks at most. -/
def LvlB (n : Nat) (w : World) (e : Ending) (w' : World) : Prop := e = .returned (.int .i64 (n : Int)) ∧ Below w.heap.size w w'
set_option maxHeartbeats 400000 in
theorem binds_number (w : World) : Calls Tryz.prog 160 #[.agg #[]] w (LvlB 6 w) := by
  have hb := (Below.refl w.heap.size w).alloc (Nat.le_refl _) (.cells #[] 94)
  go_enter Tryz.func160, Tryz.ntmps160
  go_wp2
  go_ret
  exact ⟨rfl, hb⟩
set_option maxHeartbeats 400000 in
theorem binds_variable (w : World) : Calls Tryz.prog 162 #[.agg #[]] w (LvlB 6 w) := by
  have hb := (Below.refl w.heap.size w).alloc (Nat.le_refl _) (.cells #[] 96)
  go_enter Tryz.func162, Tryz.ntmps162
  go_wp2
  go_ret
  exact ⟨rfl, hb⟩
set_option maxHeartbeats 400000 in
theorem binds_call (w : World) : Calls Tryz.prog 167 #[.agg #[]] w (LvlB 6 w) := by
  have hb := (Below.refl w.heap.size w).alloc (Nat.le_refl _) (.cells #[] 103)
  go_enter Tryz.func167, Tryz.ntmps167
  go_wp2
  go_ret
  exact ⟨rfl, hb⟩
set_option maxHeartbeats 400000 in
theorem binds_signed (z : Int) (s : ByteArray) (n : Nat) (w : World) : Calls Tryz.prog 164 #[.agg #[.int .i64 z, .string s, .int .i64 (n : Int)]] w (LvlB n w) := by
  have hb := (Below.refl w.heap.size w).alloc (Nat.le_refl _) (.cells #[.int .i64 z, .string s, .int .i64 (n : Int)] 98)
  go_enter Tryz.func164, Tryz.ntmps164
  go_wp2
  go_ret
  exact ⟨rfl, hb⟩
theorem take_signed (h : 98 < Tryz.prog.types.size) (a b c : Value) : (List.take (Tryz.prog.types[98]'h).size [a, b, c]).toArray = #[a, b, c] := by kernel_rfl
/-- Putting an expression's words, for the depth d. -/
def AddE (d : Nat) : Prop := ∀ (e : E) (_ : formE d e = true) (A : Option Addr) (cap : Nat) (w : World) (base : Nat) (v : Value) (l : List W), WRow w base v l → Env base w → RdS w base e.kids A → l.length + 6 * sizeE e ≤ 1000000 →
  Calls Tryz.prog 37 #[v, exV e A cap] w (AddRet base v (l ++ wE e 0) w)
set_option maxHeartbeats 4000000 in
theorem addKid_any (d : Nat) (HE : AddE d) (e : E) (hf : formE d e = true) (least : Nat) (hle : least ≤ 6) (A : Option Addr) (cap : Nat) (w : World) (base : Nat) (v : Value) (l : List W) (hW : WRow w base v l) (hE : Env base w) (hR : RdS w base e.kids A) (hl : l.length + 1 + 6 * sizeE e ≤ 1000000) :
    Calls Tryz.prog 73 #[v, exV e A cap, .int .i64 (least : Int)] w (AddRet base v (l ++ wE e least) w) := by
  have hop : e.op = 1 ∨ e.op = 2 ∨ e.op = 13 ∨ (e.op = 11 ∨ e.op = 12) ∨ (3 ≤ e.op ∧ e.op ≤ 10) := by
    rcases fitB_cases (formE_fit hf) with ⟨h, _⟩ | ⟨h, _⟩ | ⟨h, _⟩ | ⟨h, _⟩ | ⟨h, _⟩
    · exact .inl h
    · exact .inr (.inl h)
    · exact .inr (.inr (.inl h))
    · exact .inr (.inr (.inr (.inl h)))
    · exact .inr (.inr (.inr (.inr h)))
  have hwd := wE_bd d e hf 0
  have hsp := sizeE_pos e
  have HL := Lib.hid (show wE e least = if lvl e.op < least then (3, lpS) :: (wE e 0 ++ [(3, rpS)]) else wE e 0 by
    rw [wE_bare e (show 0 ≤ lvl e.op by omega), wE_eq]
    by_cases h : lvl e.op < least
    · rw [if_pos h, decide_eq_true h]; rfl
    · rw [if_neg h, decide_eq_false h]; rfl)
  have HEx := fun W v' l' (h1 : WRow W base v' l') (h2 : Below base w W) (h3 : l'.length ≤ l.length + 1) => Lib.hid (HE e hf A cap W base v' l' h1 (hE.next h2) (hR.below h2) (by omega))
  clear HE hf
  unfold exV at HEx ⊢
  generalize wE e 0 = we at *
  generalize wE e least = wl at *
  obtain ⟨op, n, s, ks⟩ := e
  dsimp only [E.op, E.n, E.name, E.kids] at *
  have hbs := hE.1
  obtain ⟨A1, cap1, rfl⟩ := hW.slice
  obtain ⟨c0, c1, c2, c3, hlt, hb⟩ := box_cells w (.int .i64 op) (.int .i64 n) (.string s) (.slice A ks.length cap) 24
  have HB4 := Lib.hid (show Bx4 _ w.heap.size _ _ _ _ from ⟨c0, c1, c2, c3⟩)
  have hfree := hW.free (Nat.le_refl w.heap.size)
  have HF := Lib.hid hfree
  have HW1 := Lib.hid (hW.below hb)
  have KO := fun W (h : Below base w W) => kindOf_any op W (hE.2 W h).1
  have HEV := Lib.hid hE
  have HBB := Lib.hid (hb.mono hbs)
  clear hfree hW hE hR
  go_enter Tryz.func73, Tryz.ntmps73
  go_upto_region 1 with (fail)
  generalize w.alloc (.cells #[.int .i64 op, .int .i64 n, .string s, .slice A ks.length cap] 24) = wa at *
  obtain ⟨bl, hbl⟩ : ∃ bl : Bool, bl = decide (least ≤ lvl op) := ⟨_, rfl⟩
  have HBL := Lib.hid hbl
  clear hbl
  go_cut [12] (fun v' wx => v' = .bool bl ∧ Below wa.heap.size wa wx)
  case first =>
    have HBA := HBB
    clear HB4 HW1 HF HEx HBB HL c1 c2 c3 hb
    rcases hop with rfl | rfl | rfl | ho | ho
    · have K1 := Lib.hid (KO _ HBA.out)
      clear KO
      have e1 : kindV 1 = .iface 94 (.agg #[]) := rfl
      rw [e1] at K1
      clear e1
      go_wp2_with fail
      (with_reducible refine Calls.mono K1.out ?_)
      rintro ee w1 ⟨rfl, hb1⟩
      go_wp2_with fail
      (with_reducible refine Calls.mono (binds_number _) ?_)
      rintro ee w2 ⟨rfl, hb2⟩
      have hb3 := hb1.trans (hb2.mono hb1.size)
      go_wp2
      go_meet
      refine ⟨?_, hb3⟩
      rw [HBL.out]
      show Value.bool _ = Value.bool (decide (least ≤ 6))
      congr 1
      rw [Bool.eq_iff_iff]; simp; omega
    · have K1 := Lib.hid (KO _ HBA.out)
      clear KO
      have e1 : kindV 2 = .iface 96 (.agg #[]) := rfl
      rw [e1] at K1
      clear e1
      go_wp2_with fail
      (with_reducible refine Calls.mono K1.out ?_)
      rintro ee w1 ⟨rfl, hb1⟩
      go_wp2_with fail
      (with_reducible refine Calls.mono (binds_variable _) ?_)
      rintro ee w2 ⟨rfl, hb2⟩
      have hb3 := hb1.trans (hb2.mono hb1.size)
      go_wp2
      go_meet
      refine ⟨?_, hb3⟩
      rw [HBL.out]
      show Value.bool _ = Value.bool (decide (least ≤ 6))
      congr 1
      rw [Bool.eq_iff_iff]; simp; omega
    · have K1 := Lib.hid (KO _ HBA.out)
      clear KO
      have e1 : kindV 13 = .iface 103 (.agg #[]) := rfl
      rw [e1] at K1
      clear e1
      go_wp2_with fail
      (with_reducible refine Calls.mono K1.out ?_)
      rintro ee w1 ⟨rfl, hb1⟩
      go_wp2_with fail
      (with_reducible refine Calls.mono (binds_call _) ?_)
      rintro ee w2 ⟨rfl, hb2⟩
      have hb3 := hb1.trans (hb2.mono hb1.size)
      go_wp2
      go_meet
      refine ⟨?_, hb3⟩
      rw [HBL.out]
      show Value.bool _ = Value.bool (decide (least ≤ 6))
      congr 1
      rw [Bool.eq_iff_iff]; simp; omega
    · have K0 := KO _ HBA.out
      rw [kindV_un ho] at K0
      have K1 := Lib.hid K0
      have HO := Lib.hid ho
      clear KO K0 ho
      generalize lvl op = lv at *
      go_wp2_with fail
      (with_reducible refine Calls.mono K1.out ?_)
      rintro ee w1 ⟨rfl, hb1⟩
      go_wp2_with fail
      rw [take_signed]
      (with_reducible refine Calls.mono (binds_signed _ _ _ _) ?_)
      rintro ee w2 ⟨rfl, hb2⟩
      have hb3 := hb1.trans (hb2.mono hb1.size)
      go_wp2
      go_meet
      exact ⟨by rw [HBL.out], hb3⟩
    · have K0 := KO _ HBA.out
      rw [kindV_bin ho] at K0
      have K1 := Lib.hid K0
      have HO := Lib.hid ho
      clear KO K0 ho
      generalize lvl op = lv at *
      go_wp2_with fail
      (with_reducible refine Calls.mono K1.out ?_)
      rintro ee w1 ⟨rfl, hb1⟩
      go_wp2_with fail
      rw [take_signed]
      (with_reducible refine Calls.mono (binds_signed _ _ _ _) ?_)
      rintro ee w2 ⟨rfl, hb2⟩
      have hb3 := hb1.trans (hb2.mono hb1.size)
      go_wp2
      go_meet
      exact ⟨by rw [HBL.out], hb3⟩
  case rest =>
    obtain ⟨rfl, hb1⟩ := hcut
    obtain ⟨k0, k1, k2, k3⟩ := HB4.out.below hb1 hlt
    have hwl : w.heap.size ≤ wc.heap.size := Nat.le_trans (Nat.le_of_lt hlt) hb1.size
    have hbw : Below w.heap.size w wc := hb.trans (hb1.mono (Nat.le_of_lt hlt))
    have HWc := Lib.hid (HW1.out.below hb1)
    have hltc : w.heap.size < wc.heap.size := Nat.lt_of_lt_of_le hlt hb1.size
    have hbb : Below base w wc := hbw.mono hbs
    have HP0 := Lib.hid (Put.of_below (v := .slice A1 l.length cap1) hbw hbs)
    cases bl
    · have HL1 := Lib.hid (HL.out.trans (if_pos (by have := of_decide_eq_false HBL.out.symm; omega)))
      clear HL HBL HW1 hb hb1 c0 c1 c2 c3 KO
      obtain ⟨wx, rfl⟩ : ∃ wx : World, wx = wc := ⟨_, rfl⟩
      have hbz : base ≤ wx.heap.size := Nat.le_trans hbs hwl
      have hbx4 : Bx4 wx w.heap.size (.int .i64 op) (.int .i64 n) (.string s) (.slice A ks.length cap) := ⟨k0, k1, k2, k3⟩
      have hEx : Env base wx.drew := HEV.out.next hbb.drew
      have A1a := Lib.hid (show Calls Tryz.prog 71 #[.slice A1 l.length cap1, .slice (some ⟨wx.heap.size, 0, none⟩) 1 1] (wx.alloc (.cells #[.string ⟨#[40]⟩] 9)).drew (Lp1 base (.slice A1 l.length cap1) l wx.drew w.heap.size (.int .i64 op) (.int .i64 n) (.string s) (.slice A ks.length cap)) from lp_a base (.slice A1 l.length cap1) l wx.drew w.heap.size (.int .i64 op) (.int .i64 n) (.string s) (.slice A ks.length cap) HWc.out hEx (by omega) hbx4 hltc HF.out)
      have A1b := Lib.hid (show Calls Tryz.prog 71 #[.slice A1 l.length cap1, .slice (some ⟨wx.heap.size + 1, 0, none⟩) 1 1] ((wx.alloc (.cells #[.string ⟨#[41]⟩] 9)).alloc (.cells #[.string ⟨#[40]⟩] 9)).drew (Lp2 base (.slice A1 l.length cap1) l wx.drew w.heap.size wx.heap.size (.int .i64 op) (.int .i64 n) (.string s) (.slice A ks.length cap)) from lp_b base (.slice A1 l.length cap1) l wx.drew w.heap.size (.int .i64 op) (.int .i64 n) (.string s) (.slice A ks.length cap) HWc.out hEx (by omega) hbx4 hltc HF.out)
      have A1c := Lib.hid (show Calls Tryz.prog 71 #[.slice A1 l.length cap1, .slice (some ⟨wx.heap.size, 0, none⟩) 1 1] ((wx.alloc (.cells #[.string ⟨#[40]⟩] 9)).alloc (.cells #[.string ⟨#[41]⟩] 9)).drew (Lp2 base (.slice A1 l.length cap1) l wx.drew w.heap.size (wx.heap.size + 1) (.int .i64 op) (.int .i64 n) (.string s) (.slice A ks.length cap)) from lp_c base (.slice A1 l.length cap1) l wx.drew w.heap.size (.int .i64 op) (.int .i64 n) (.string s) (.slice A ks.length cap) HWc.out hEx (by omega) hbx4 hltc HF.out)
      obtain ⟨a0, a1, a2, a3⟩ := hbx4.grow hltc (.cells #[.string ⟨#[40]⟩] 9)
      obtain ⟨b0, b1, b2, b3⟩ := hbx4.grow hltc (.cells #[.string ⟨#[41]⟩] 9)
      obtain ⟨d0, d1, d2, d3⟩ := (hbx4.grow hltc (.cells #[.string ⟨#[40]⟩] 9)).grow (Nat.lt_of_lt_of_le hltc (by rw [World.size_alloc]; omega)) (.cells #[.string ⟨#[41]⟩] 9)
      obtain ⟨f0, f1, f2, f3⟩ := (hbx4.grow hltc (.cells #[.string ⟨#[41]⟩] 9)).grow (Nat.lt_of_lt_of_le hltc (by rw [World.size_alloc]; omega)) (.cells #[.string ⟨#[40]⟩] 9)
      have HBD := Lib.hid (show Below base w wx.drew from hbb.drew)
      have KE := fun v1 w1 (h0 : WRow w1 base v1 (l ++ [(3, ⟨#[40]⟩)])) (h1 : Below base w w1) => HEx w1 v1 _ h0 h1 (by rw [List.length_append]; exact Nat.le_refl _)
      have KR := fun v2 w2 g (h0 : WRow w2 base v2 (l ++ [(3, ⟨#[40]⟩)] ++ we)) (h1 : Below base w w2) (h2 : Gf v2 g w2) => Lib.hid (rp_known base g v2 _ w2 h0 (HEV.out.next h1) h2 (by simp only [List.length_append, List.length_cons, List.length_nil]; omega))
      have KN := fun v2 w2 (h0 : WRow w2 base v2 (l ++ [(3, ⟨#[40]⟩)] ++ we)) (h1 : Below base w w2) => Lib.hid (rp_new base v2 _ w2 h0 (HEV.out.next h1) (by simp only [List.length_append, List.length_cons, List.length_nil]; omega))
      have HLX := Lib.hid hltc
      clear hbx4 hEx hltc
      go_wp2
      go_region_with (first
        | (go_at_call 71; (with_reducible refine Calls.mono A1a.out ?_); rintro ee w1 ⟨v1, rfl, hW1, hp1, ⟨m0, m1, m2, m3⟩, ⟨n0, n1, n2, n3⟩⟩)
        | (go_at_call 71; (with_reducible refine Calls.mono A1b.out ?_); rintro ee w1 ⟨v1, rfl, hW1, hp1, ⟨m0, m1, m2, m3⟩, hg1⟩)
        | (go_at_call 71; (with_reducible refine Calls.mono A1c.out ?_); rintro ee w1 ⟨v1, rfl, hW1, hp1, ⟨m0, m1, m2, m3⟩, hg1⟩)
        | (go_at_call 37; (with_reducible refine Calls.mono (KE _ _ hW1 (HBD.out.trans hp1.below)).out ?_); rintro ee w2 ⟨v2, rfl, hW2, hp2⟩; have hp12 := hp1.trans hp2; have hg2 := hg1.put hp2)
        | (go_at_call 37; (with_reducible refine Calls.mono (KE _ _ hW1 (HBD.out.trans hp1.below)).out ?_); rintro ee w2 ⟨v2, rfl, hW2, hp2⟩; have hp12 := hp1.trans hp2)
        | (go_at_call 37; (with_reducible refine Calls.mono (KE _ (w1.alloc (.cells #[.string ⟨#[41]⟩] 9)) (hW1.below ((Below.refl _ _).alloc (Nat.le_refl _) _)) ((HBD.out.trans hp1.below).alloc (Nat.le_trans hbs (HBD.out.trans hp1.below).size) _)).out ?_); rintro ee w2 ⟨v2, rfl, hW2, hp2⟩; have hp12 := (hp1.trans (Put.of_below ((Below.refl _ _).alloc (Nat.le_refl _) _) (Nat.le_trans hbz hp1.below.size))).trans hp2; have hg2 := Gf.put (g := w1.heap.size) ⟨alloc_cell w1 _ _ (0, 0) 0, hW1.free (Nat.le_refl _), by rw [World.size_alloc]; omega⟩ hp2)
        | (go_at_call 71; (with_reducible refine Calls.mono (KR _ _ _ hW2 (HBD.out.trans hp12.below) hg2).out ?_); rintro ee w3 ⟨v3, rfl, hW3, hp3⟩; have HW6 := Lib.hid hW3; have HQ := Lib.hid (hp12.trans hp3))
        | (go_at_call 71; (with_reducible refine Calls.mono (KN _ _ hW2 (HBD.out.trans hp12.below)).out ?_); rintro ee w3 ⟨v3, rfl, hW3, hp3⟩; have HW6 := Lib.hid hW3; have HQ := Lib.hid (hp12.trans hp3)))
      all_goals
        clear hW3 hp3 hW2 hp2 hp12 hW1 hp1
        go_wp2
        go_ret
        refine ⟨_, rfl, ?_, (HP0.out.trans (Put.of_below (Below.refl _ _).drew hbz)).trans HQ.out⟩
        rw [HL1.out]
        have := HW6.out
        rw [List.append_assoc, List.append_assoc] at this
        exact this
    · have HL1 := Lib.hid (HL.out.trans (if_neg (by have := of_decide_eq_true HBL.out.symm; omega)))
      have HX := Lib.hid (HEx wc _ l HWc.out hbb (by omega)).out
      clear HL HBL HW1 hb hb1 c0 c1 c2 c3 KO HEx
      go_wp2_with fail
      (with_reducible refine Calls.mono HX.out ?_)
      rintro ee w2 ⟨v2, rfl, hW3, hp2⟩
      have HW4 := Lib.hid hW3
      have HQ2 := Lib.hid hp2
      clear hW3 hp2
      go_wp2
      go_ret
      exact ⟨_, rfl, by rw [HL1.out]; exact HW4.out, HP0.out.trans HQ2.out⟩
end Go.Proofs.YtkhcfhhejmkikaaGreatDoor
