/-
  Texts of expressions: the model's l2Text and ExprText.
-/
import Derived.Test.YtoepehlndljkoaaDoorF5
namespace Go.Proofs.YtoepehlndljkoaaDoor
open Go.RowKit
set_option maxRecDepth 100000

/-- A text, and new blocks at most. -/
def StrB (t : ByteArray) (w : World) (e : Ending) (w' : World) : Prop := e = .returned (.string t) ∧ Below w.heap.size w w'
theorem wE_tx_size {d : Nat} {e : E} (h : formE d e = true) (l : Nat) : (tx (wE e l)).size ≤ 30 * sizeE e := by
  have h1 := tx_size (wE_valid d e h l)
  have h2 := wE_bd d e h l
  omega
theorem need_br {e : E} {need : Nat} (h : lvl e.op < need) (hne : bodyW e.op e.n e.name (wL e.op 0 e.kids) ≠ []) : tx (wE e need) = (⟨#[40, 32]⟩ ++ tx (wE e 0)) ++ ⟨#[32, 41]⟩ := by
  have e0 : wE e 0 = bodyW e.op e.n e.name (wL e.op 0 e.kids) := wE_bare e (by omega)
  rw [e0, ← tx_br hne, wE_eq, decide_eq_true h]
  rfl
theorem need_no {e : E} {need : Nat} (h : ¬ lvl e.op < need) : tx (wE e need) = tx (wE e 0) := by
  rw [wE_bare e (show need ≤ lvl e.op by omega), wE_bare e (show 0 ≤ lvl e.op by omega)]
set_option maxHeartbeats 1000000 in
theorem l2Text_num (m : Nat) (hm : m ≤ 255) (need : Nat) (hn : need ≤ 6) (A : Option Addr) (cap : Nat) (w : World) :
    Calls Tryd.prog 16 #[.agg #[.int .i64 1, .int .i64 (m : Int), .string ⟨#[]⟩, .slice A 0 cap], .int .i64 (need : Int)] w (StrB (tx (wE (numE m) need)) w) := by
  have HT := Lib.hid (show tx (wE (numE m) need) = decS m by rw [wE_num _ hn, tx_one]; rfl)
  generalize tx (wE (numE m) need) = t at *
  obtain ⟨c0, c1, c2, c3, hlt, hb⟩ := box_cells w (.int .i64 1) (.int .i64 (m : Int)) (.string ⟨#[]⟩) (.slice A 0 cap) 30
  go_enter Tryd.func16, Tryd.ntmps16
  go_wp2_with fail
  refine Calls.mono (l2Level_any _ _) ?_
  rintro ee w1 ⟨rfl, rfl⟩
  have e6 : ((lvl 1 : Nat) : Int) = 6 := rfl
  rw [e6]
  clear e6
  go_wp2_with fail
  refine Calls.mono (l30Dec_exact m _ (by omega)) ?_
  rintro ee w1 ⟨rfl, hb1⟩
  have hb2 := hb.trans (hb1.mono (Nat.le_of_lt hlt))
  go_wp2
  go_ret
  exact ⟨by rw [HT.out]; rfl, hb2⟩
set_option maxHeartbeats 1000000 in
theorem l2Text_var (s : ByteArray) (need : Nat) (hn : need ≤ 6) (A : Option Addr) (cap : Nat) (w : World) :
    Calls Tryd.prog 16 #[.agg #[.int .i64 2, .int .i64 0, .string s, .slice A 0 cap], .int .i64 (need : Int)] w (StrB (tx (wE (varE s) need)) w) := by
  have HT := Lib.hid (show tx (wE (varE s) need) = s by rw [wE_var _ hn, tx_one])
  generalize tx (wE (varE s) need) = t at *
  obtain ⟨c0, c1, c2, c3, hlt, hb⟩ := box_cells w (.int .i64 2) (.int .i64 0) (.string s) (.slice A 0 cap) 30
  go_enter Tryd.func16, Tryd.ntmps16
  go_wp2_with fail
  refine Calls.mono (l2Level_any _ _) ?_
  rintro ee w1 ⟨rfl, rfl⟩
  have e6 : ((lvl 2 : Nat) : Int) = 6 := rfl
  rw [e6]
  clear e6
  go_wp2
  go_ret
  exact ⟨by rw [HT.out]; rfl, hb⟩
set_option maxHeartbeats 2000000 in
theorem l2Text_call (d : Nat) (s : ByteArray) (ks : List E) (hs : s.size ≤ 4) (hk : ∀ k ∈ ks, formE d k = true) (need : Nat) (hn : need ≤ 6) (A : Option Addr) (cap : Nat) (w : World) (hR : RdS w w.heap.size ks A) (hl : sizeL ks ≤ 1000000)
    (hsz : ∀ i, i ≤ ks.length → (tx ((1, s) :: (3, lpS) :: callTo ks i)).size ≤ 40000000)
    (ih : ∀ (k : E) (_ : formE d k = true) (need : Nat) (_ : need ≤ 6) (A : Option Addr) (cap : Nat) (w : World), RdS w w.heap.size k.kids A → sizeE k ≤ 1000000 → Calls Tryd.prog 16 #[exV k A cap, .int .i64 (need : Int)] w (StrB (tx (wE k need)) w)) :
    Calls Tryd.prog 16 #[.agg #[.int .i64 13, .int .i64 0, .string s, .slice A ks.length cap], .int .i64 (need : Int)] w (StrB (tx (wE (callE s ks) need)) w) := by
  unfold exV at ih
  have IH := Lib.hid ih
  have HR := Lib.hid hR
  have HK := Lib.hid hk
  have HSZ := Lib.hid hsz
  clear ih hR hk hsz
  have hll := length_le_sizeL ks
  have HT := Lib.hid (show tx (wE (callE s ks) need) = tx ((1, s) :: (3, lpS) :: callTo ks ks.length) ++ ⟨#[32, 41]⟩ by
    rw [wE_call _ _ hn, ← tx_end (by simp), callTo_end]; rfl)
  generalize tx (wE (callE s ks) need) = t at *
  obtain ⟨c0, c1, c2, c3, hlt, hb⟩ := box_cells w (.int .i64 13) (.int .i64 0) (.string s) (.slice A ks.length cap) 30
  go_enter Tryd.func16, Tryd.ntmps16
  go_wp2_with fail
  refine Calls.mono (l2Level_any _ _) ?_
  rintro ee w1 ⟨rfl, rfl⟩
  have e6 : ((lvl 13 : Nat) : Int) = 6 := rfl
  rw [e6]
  clear e6
  generalize w.alloc (.cells #[.int .i64 13, .int .i64 0, .string s, .slice A ks.length cap] 30) = wa at *
  go_wp2
  go_loopw [6, 7] (fun o i wr => ∃ (k : Nat) (out : ByteArray), k ≤ ks.length ∧ i = .int .i64 k ∧ o = .string out ∧ out = tx ((1, s) :: (3, lpS) :: callTo ks k) ∧ Below wa.heap.size wa wr) (fun _ i _ => ks.length - (intOf i).toNat)
  case atStart => exact ⟨0, _, Nat.zero_le _, rfl, rfl, by rw [callTo_zero, tx_call0], Below.refl _ _⟩
  case round =>
    obtain ⟨k, out, hk, rfl, rfl, ho, hbr⟩ := hrel
    have g3 := (hbr.cell (p := ⟨w.heap.size, 3, none⟩) hlt).trans c3
    have hbw := hb.trans (hbr.mono (Nat.le_of_lt hlt))
    have hbs := hbw.size
    have hos : out.size ≤ 40000000 := by rw [ho]; exact HSZ.out k hk
    have HO := Lib.hid ho
    clear ho
    by_cases hlk : k < ks.length
    · have hsk := sizeL_get hlk
      have hfk := HK.out _ (List.getElem_mem hlk)
      obtain ⟨b, o, rfl, hB, ⟨d0, d1, d2⟩, A', cap', d3, hr'⟩ := (HR.out.below hbw).at_ hlk
      have hts := wE_tx_size hfk 1
      have hne := (head_ok d _ hfk 1 []).2
      have IHK0 := IH.out ks[k] hfk 1 (by omega) A' cap' _ (hr'.more hbs) (by omega)
      have HN : tx ((1, s) :: (3, lpS) :: callTo ks (k + 1)) = if k = 0 then (out ++ ⟨#[32]⟩) ++ tx (wE ks[k] 1) else ((out ++ ⟨#[32, 44]⟩) ++ ⟨#[32]⟩) ++ tx (wE ks[k] 1) := by
        by_cases h0 : k = 0
        · subst h0
          rw [if_pos rfl, HO.out, callTo_zero, ← tx_first (by simp) hne, callTo_first hlk]; rfl
        · rw [if_neg h0, HO.out, ← tx_next (by simp) hne, callTo_next hlk (by omega)]; rfl
      have HN := Lib.hid HN
      clear hfk hr' hne
      generalize tx (wE ks[k] 1) = tk at *
      generalize hkd : ks[k] = kid at *
      have hts2 : tk.size ≤ 30000000 := by omega
      clear hkd
      obtain ⟨op', n', s', ks'⟩ := kid
      dsimp only [E.op, E.n, E.name, E.kids] at d0 d1 d2 d3 IHK0
      have IHK := Lib.hid IHK0
      clear IHK0
      by_cases h0 : k = 0
      · have hk0 : k ≤ 0 := by omega
        have HH := Lib.hid h0
        clear h0
        go_wp2_with ((go_at_call 16; (with_reducible refine Calls.mono IHK.out ?_); rintro ee w2 ⟨rfl, hb2⟩; have hb3 := hbr.trans (hb2.mono hbr.size)))
        go_roundw
        case rel => exact ⟨k + 1, _, by omega, by go_num, rfl, by rw [HN.out, if_pos HH.out], hb3⟩
        case measure => simp only [intOf]; omega
      · have hk0 : 0 < k := by omega
        have HH := Lib.hid h0
        clear h0
        go_wp2_with ((go_at_call 16; (with_reducible refine Calls.mono IHK.out ?_); rintro ee w2 ⟨rfl, hb2⟩; have hb3 := hbr.trans (hb2.mono hbr.size)))
        go_roundw
        case rel => exact ⟨k + 1, _, by omega, by go_num, rfl, by rw [HN.out, if_neg HH.out], hb3⟩
        case measure => simp only [intOf]; omega
    · obtain rfl : k = ks.length := by omega
      go_wp2
      go_ret
      exact ⟨by rw [HT.out, ← HO.out]; rfl, hbw⟩
end Go.Proofs.YtoepehlndljkoaaDoor
