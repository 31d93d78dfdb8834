/-
  PlainText: the model's and the program's return the same; the law's walk.
-/
import Derived.Test.YtljoipgpkmdjbaaDoorCutLaw
namespace Go.Proofs.YtljoipgpkmdjbaaDoor
open Go.RowKit
set_option maxRecDepth 100000

theorem procR_valid : ∀ (l : List ByteArray) (ws : List (Int × ByteArray)), procR l = some ws → ∀ x ∈ ws, validB x.1 x.2 = true
  | [], ws, h, x, hx => by
    have : ws = [] := (Option.some.inj h).symm
    subst this; cases hx
  | t :: r, ws, h, x, hx => by
    have e : procR (t :: r) = if runKind t = 5 then procR r else if validB (runKind t) t = true then (procR r).map ((runKind t, t) :: ·) else none := rfl
    rw [e] at h
    split at h
    · exact procR_valid r ws h x hx
    · split at h
      · rename_i hv
        obtain ⟨y, hy, rfl⟩ := Option.map_eq_some_iff.1 h
        rcases List.mem_cons.1 hx with rfl | hx
        · exact hv
        · exact procR_valid r y hy x hx
      · cases h
theorem cutRes_valid (s : ByteArray) : ∀ x ∈ (cutRes s).1, validB x.1 x.2 = true := by
  intro x hx
  unfold cutRes at hx
  split at hx
  · cases hx
  · split at hx
    · rename_i ws hc
      split at hx
      · exact procR_valid _ ws (by rw [cut_runs]; exact hc) x hx
      · cases hx
    · cases hx
/-- What PlainText returns. -/
noncomputable def plainF (s : ByteArray) : ByteArray × Bool := if (cutRes s).2 = true then joinF (cutRes s).1 else (⟨#[]⟩, false)

set_option maxHeartbeats 1000000 in
theorem implPlainText_any (s : ByteArray) (w : World) (hs : s.size ≤ 1048576) (T : Tabs w) (N : NTabs w) :
    Calls Tryd.prog 18 #[.string s] w (TextRet (plainF s) w) := by
  have SC := Lib.hid (implCutWords_any s w hs T N)
  have hlen := cutRes_len s
  have HV := Lib.hid (cutRes_valid s)
  unfold plainF
  generalize cutRes s = p at *
  obtain ⟨ws, ok⟩ := p
  have hlen' : ws.length ≤ 600 := hlen
  clear hlen
  cases ok
  · go_enter Tryd.func18, Tryd.ntmps18
    go_wp2_with fail
    refine SC.out.mono ?_
    rintro e w1 ⟨⟨v0, rfl, hO1⟩, hb1⟩
    clear SC hO1
    go_wp2
    go_ret2
    exact ⟨rfl, hb1⟩
  · go_enter Tryd.func18, Tryd.ntmps18
    go_wp2_with fail
    refine SC.out.mono ?_
    rintro e w1 ⟨⟨v0, rfl, hO1⟩, hb1⟩
    obtain ⟨A0, cap0, rfl, hW1⟩ := words_own hO1
    have SJ := Lib.hid (implJoinWords_any A0 ws cap0 w1 hW1 (fun x hx => by have := validB_size (HV.out x hx); omega) (by omega) (T.below hb1) (N.below hb1))
    have e1 : (if (ws, true).2 = true then joinF (ws, true).1 else (⟨#[]⟩, false)) = joinF ws := rfl
    have HE := Lib.hid e1
    clear e1 SC hO1 hW1
    generalize joinF ws = q at *
    obtain ⟨tx, fl⟩ := q
    go_wp2_with fail
    refine SJ.out.mono ?_
    rintro e w2 ⟨rfl, hb2⟩
    have hb3 := hb1.trans (hb2.mono hb1.size)
    clear hb1 hb2 SJ
    go_wp2
    go_ret2
    exact ⟨rfl, hb3⟩

end Go.Proofs.YtljoipgpkmdjbaaDoor
