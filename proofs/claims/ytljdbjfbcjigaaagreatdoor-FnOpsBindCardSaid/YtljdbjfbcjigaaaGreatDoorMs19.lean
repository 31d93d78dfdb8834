/-
  For every stream of bytes and each op between two the drawn expressions of the document's chapter 2 are read back as the op's Kids, with brackets around each or with those alone that are needed. Conditions: the program's tables and the library's variables stand as their text lays them (tied by the card).
-/
import Derived.Test.YtljdbjfbcjigaaaGreatDoorMs1
import Derived.Test.YtljdbjfbcjigaaaGreatDoorMs10
import Derived.Test.YtljdbjfbcjigaaaGreatDoorMs11
import Derived.Test.YtljdbjfbcjigaaaGreatDoorMs18
import Derived.Test.YtljdbjfbcjigaaaGreatDoorMs2
import Derived.Deep.RegionHeld3
import Derived.Test.YtljdbjfbcjigaaaGreatDoorRows
import Derived.ShapedOpen
import Derived.JoinedOf
import Derived.Test.YtljdbjfbcjigaaaGreatDoorCards
import Derived.Test.YtljdbjfbcjigaaaGreatDoorTie
import Derived.SevenTiedAt
namespace Go.Proofs.YtljdbjfbcjigaaaGreatDoor
open Go.RowKit
set_option maxRecDepth 100000

/-- An op between two expressions that lie in memory, made anew. -/
theorem bin_mem (w : World) (a b : E) (A B : Option Addr) (c d : Nat) (op : Int) (hA : PdS w (Between w 0 w.heap.size) a.kids A) (hB : PdS w (Between w 0 w.heap.size) b.kids B) :
    PdS ((w.alloc (.cells #[.int .i64 a.op, .int .i64 a.n, .string a.name, .slice A a.kids.length c, .int .i64 b.op, .int .i64 b.n, .string b.name, .slice B b.kids.length d] 28)).alloc (.cells #[.int .i64 op, .int .i64 0, .string ⟨#[]⟩, .slice (some ⟨w.heap.size, 0, none⟩) 2 2] 28)) (Between ((w.alloc (.cells #[.int .i64 a.op, .int .i64 a.n, .string a.name, .slice A a.kids.length c, .int .i64 b.op, .int .i64 b.n, .string b.name, .slice B b.kids.length d] 28)).alloc (.cells #[.int .i64 op, .int .i64 0, .string ⟨#[]⟩, .slice (some ⟨w.heap.size, 0, none⟩) 2 2] 28)) 0 ((w.alloc (.cells #[.int .i64 a.op, .int .i64 a.n, .string a.name, .slice A a.kids.length c, .int .i64 b.op, .int .i64 b.n, .string b.name, .slice B b.kids.length d] 28)).alloc (.cells #[.int .i64 op, .int .i64 0, .string ⟨#[]⟩, .slice (some ⟨w.heap.size, 0, none⟩) 2 2] 28)).heap.size) [a, b] (some ⟨w.heap.size, 0, none⟩) ∧
    Bx4 ((w.alloc (.cells #[.int .i64 a.op, .int .i64 a.n, .string a.name, .slice A a.kids.length c, .int .i64 b.op, .int .i64 b.n, .string b.name, .slice B b.kids.length d] 28)).alloc (.cells #[.int .i64 op, .int .i64 0, .string ⟨#[]⟩, .slice (some ⟨w.heap.size, 0, none⟩) 2 2] 28)) (w.heap.size + 1) (.int .i64 op) (.int .i64 0) (.string ⟨#[]⟩) (.slice (some ⟨w.heap.size, 0, none⟩) 2 2) ∧
    w.heap.size + 1 < ((w.alloc (.cells #[.int .i64 a.op, .int .i64 a.n, .string a.name, .slice A a.kids.length c, .int .i64 b.op, .int .i64 b.n, .string b.name, .slice B b.kids.length d] 28)).alloc (.cells #[.int .i64 op, .int .i64 0, .string ⟨#[]⟩, .slice (some ⟨w.heap.size, 0, none⟩) 2 2] 28)).heap.size ∧
    Below w.heap.size w ((w.alloc (.cells #[.int .i64 a.op, .int .i64 a.n, .string a.name, .slice A a.kids.length c, .int .i64 b.op, .int .i64 b.n, .string b.name, .slice B b.kids.length d] 28)).alloc (.cells #[.int .i64 op, .int .i64 0, .string ⟨#[]⟩, .slice (some ⟨w.heap.size, 0, none⟩) 2 2] 28)) := by
  have s1 : (w.alloc (.cells #[.int .i64 a.op, .int .i64 a.n, .string a.name, .slice A a.kids.length c, .int .i64 b.op, .int .i64 b.n, .string b.name, .slice B b.kids.length d] 28)).heap.size = w.heap.size + 1 := World.size_alloc _ _
  have hal := (Below.refl _ (w.alloc (.cells #[.int .i64 a.op, .int .i64 a.n, .string a.name, .slice A a.kids.length c, .int .i64 b.op, .int .i64 b.n, .string b.name, .slice B b.kids.length d] 28))).alloc (Nat.le_refl _) (.cells #[.int .i64 op, .int .i64 0, .string ⟨#[]⟩, .slice (some ⟨w.heap.size, 0, none⟩) 2 2] 28)
  have hb := two_boxes w (.cells #[.int .i64 a.op, .int .i64 a.n, .string a.name, .slice A a.kids.length c, .int .i64 b.op, .int .i64 b.n, .string b.name, .slice B b.kids.length d] 28) (.cells #[.int .i64 op, .int .i64 0, .string ⟨#[]⟩, .slice (some ⟨w.heap.size, 0, none⟩) 2 2] 28)
  have hnew := heap_alloc_new w (.cells #[.int .i64 a.op, .int .i64 a.n, .string a.name, .slice A a.kids.length c, .int .i64 b.op, .int .i64 b.n, .string b.name, .slice B b.kids.length d] 28)
  have hc := fun o => alloc_cell w #[.int .i64 a.op, .int .i64 a.n, .string a.name, .slice A a.kids.length c, .int .i64 b.op, .int .i64 b.n, .string b.name, .slice B b.kids.length d] 28 (0, 0) o
  have hX := Bx4.new (w.alloc (.cells #[.int .i64 a.op, .int .i64 a.n, .string a.name, .slice A a.kids.length c, .int .i64 b.op, .int .i64 b.n, .string b.name, .slice B b.kids.length d] 28)) (.int .i64 op) (.int .i64 0) (.string ⟨#[]⟩) (.slice (some ⟨w.heap.size, 0, none⟩) 2 2) 28
  rw [s1] at hX
  have hz : ((w.alloc (.cells #[.int .i64 a.op, .int .i64 a.n, .string a.name, .slice A a.kids.length c, .int .i64 b.op, .int .i64 b.n, .string b.name, .slice B b.kids.length d] 28)).alloc (.cells #[.int .i64 op, .int .i64 0, .string ⟨#[]⟩, .slice (some ⟨w.heap.size, 0, none⟩) 2 2] 28)).heap.size = w.heap.size + 1 + 1 := by rw [World.size_alloc, s1]
  have hw : w.heap.size < (w.alloc (.cells #[.int .i64 a.op, .int .i64 a.n, .string a.name, .slice A a.kids.length c, .int .i64 b.op, .int .i64 b.n, .string b.name, .slice B b.kids.length d] 28)).heap.size := by rw [s1]; omega
  have hfl : Flat (w.alloc (.cells #[.int .i64 a.op, .int .i64 a.n, .string a.name, .slice A a.kids.length c, .int .i64 b.op, .int .i64 b.n, .string b.name, .slice B b.kids.length d] 28)) w.heap.size := ⟨_, _, hnew⟩
  have hfl2 := hfl.below hal hw
  have hc2 := fun o => (hal.cell (p := ⟨w.heap.size, o, none⟩) hw).trans (hc o)
  have pA := hA.later hb (Nat.le_refl 0) hb.size
  have pB := hB.later hb (Nat.le_refl 0) hb.size
  clear hal hnew hc hfl
  generalize (w.alloc (.cells #[.int .i64 a.op, .int .i64 a.n, .string a.name, .slice A a.kids.length c, .int .i64 b.op, .int .i64 b.n, .string b.name, .slice B b.kids.length d] 28)).alloc (.cells #[.int .i64 op, .int .i64 0, .string ⟨#[]⟩, .slice (some ⟨w.heap.size, 0, none⟩) 2 2] 28) = W at *
  refine ⟨.inr ⟨w.heap.size, 0, rfl, ⟨Nat.zero_le _, by omega, hfl2⟩, PdC.mk fun i hi => ?_⟩, hX, by omega, hb⟩
  have hi' : i = 0 ∨ i = 1 := by have : i < 2 := hi; omega
  rcases hi' with rfl | rfl
  · exact ⟨⟨hc2 0, hc2 1, hc2 2⟩, A, c, hc2 3, pA⟩
  · exact ⟨⟨hc2 4, hc2 5, hc2 6⟩, B, d, hc2 7, pB⟩
set_option maxHeartbeats 16000000 in
theorem fnOpsBind_walk (Ac : Option Addr) (l : List UInt8) (cap : Nat) (w : World) (h : Bytes w w.heap.size Ac l) (hn : l.length ≤ cap) (hcap : cap ≤ 9223372036854775807) (T : Tabs w) (N : NTabs w) (G : Sgn w) :
    Calls Tryz.prog 6 #[.slice Ac l.length cap] w fun ee w' => ee = .returned (.bool true) ∧ Below w.heap.size w w' := by
  by_cases hbig : 1048576 < l.length
  · have hbig' : (1048576 : Int) < l.length := by omega
    clear h T N G
    go_enter Tryz.func6, Tryz.ntmps6
    go_wp2_with fail
    go_ret
    exact ⟨rfl, Below.refl _ _⟩
  have hbig' : ¬ (1048576 : Int) < l.length := by omega
  have DR := Lib.hid (drawSameExpr_any Ac l cap w h hn hcap)
  have TNG := Lib.hid (show ∀ W, Below w.heap.size w W → Tabs W ∧ NTabs W ∧ Sgn W from fun W h => ⟨T.below h, N.below h, G.below h⟩)
  clear h T N G hbig
  go_enter Tryz.func6, Tryz.ntmps6
  go_wp2_with fail
  refine Calls.mono DR.out ?_
  rintro ee w1 ⟨a, b, A, B, c, d, rfl, hp1, hq1, hba, hbb, hb1⟩
  unfold exV
  obtain ⟨u, v, hlt, hal⟩ := two4 w1 (.int .i64 a.op) (.int .i64 a.n) (.string a.name) (.slice A a.kids.length c) (.int .i64 b.op) (.int .i64 b.n) (.string b.name) (.slice B b.kids.length d) 28 28
  have U2 := Lib.hid u
  have V2 := Lib.hid v
  have HB2 := Lib.hid (hb1.trans (hal.mono hb1.size))
  have HP2 := Lib.hid (PdS.later hp1 hal (Nat.le_refl _) hal.size)
  have HQ2 := Lib.hid (PdS.later hq1 hal (Nat.le_refl _) hal.size)
  clear hb1 hp1 hq1 DR hal u v
  go_upto_region 4 with (fail)
  generalize (w1.alloc (.cells #[.int .i64 a.op, .int .i64 a.n, .string a.name, .slice A a.kids.length c] 28)).alloc (.cells #[.int .i64 b.op, .int .i64 b.n, .string b.name, .slice B b.kids.length d] 28) = w2 at *
  have hlt0 : w1.heap.size < w2.heap.size := by omega
  have RA := Lib.hid (show ∀ W, Below w2.heap.size w2 W → PdS W (Between W 0 W.heap.size) a.kids A from fun W h => HP2.out.later h (Nat.zero_le _) h.size)
  have RB := Lib.hid (show ∀ W, Below w2.heap.size w2 W → PdS W (Between W 0 W.heap.size) b.kids B from fun W h => HQ2.out.later h (Nat.zero_le _) h.size)
  have TG := Lib.hid (show ∀ W, Below w2.heap.size w2 W → Tabs W ∧ NTabs W ∧ Sgn W from fun W h => TNG.out W (HB2.out.trans (h.mono HB2.out.size)))
  clear HP2 HQ2 TNG
  go_cut [45] from 25 to 45 (fun c wx => c = .bool false ∧ Below w2.heap.size w2 wx)
  case first =>
    have SAB := fun W h => implSame_walk a b A c B d W (RA.out W h) (RB.out W h) (by omega) (by omega)
    have PAB := fun W h => specSameExpr_any a b A c B d W (RA.out W h).between_rd (RB.out W h).between_rd (by omega) (by omega)
    have IVA := fun W h => implExprValid_any a A c W (RA.out W h).between_rd (by omega) (TG.out W h).1 (TG.out W h).2.2
    have IVB := fun W h => implExprValid_any b B d W (RB.out W h).between_rd (by omega) (TG.out W h).1 (TG.out W h).2.2
    have SVA := fun W h => specExprValid_any a A c W (RA.out W h).between_rd (by omega)
    have SVB := fun W h => specExprValid_any b B d W (RB.out W h).between_rd (by omega)
    unfold exV at SAB PAB IVA IVB SVA SVB
    generalize eqB a b = z at *
    generalize validE a = za at *
    generalize validE b = zb at *
    replace SAB := fun W h => Lib.hid (SAB W h)
    replace PAB := fun W h => Lib.hid (PAB W h)
    replace IVA := fun W h => Lib.hid (IVA W h)
    replace IVB := fun W h => Lib.hid (IVB W h)
    replace SVA := fun W h => Lib.hid (SVA W h)
    replace SVB := fun W h => Lib.hid (SVB W h)
    have z1 : (z != z) = false := by simp
    have z2 : (za != za) = false := by simp
    have z3 : (zb != zb) = false := by simp
    have hd := (Below.refl w2.heap.size w2).drew
    obtain ⟨ua0, ua1, ua2, ua3⟩ := U2.out
    obtain ⟨va0, va1, va2, va3⟩ := V2.out
    clear RA RB TG HB2
    go_region_held3 (fun u => u.cell? ⟨w1.heap.size, 0, none⟩ = some (.int .i64 a.op) ∧ u.cell? ⟨w1.heap.size, 1, none⟩ = some (.int .i64 a.n) ∧ u.cell? ⟨w1.heap.size, 2, none⟩ = some (.string a.name) ∧ u.cell? ⟨w1.heap.size, 3, none⟩ = some (.slice A a.kids.length c) ∧ u.cell? ⟨w1.heap.size + 1, 0, none⟩ = some (.int .i64 b.op) ∧ u.cell? ⟨w1.heap.size + 1, 1, none⟩ = some (.int .i64 b.n) ∧ u.cell? ⟨w1.heap.size + 1, 2, none⟩ = some (.string b.name) ∧ u.cell? ⟨w1.heap.size + 1, 3, none⟩ = some (.slice B b.kids.length d)) (go_keep)
      (first
        | (go_at_call 25; (with_reducible refine Calls.mono (SAB w2.drew hd).out ?_); rintro ee y1 ⟨rfl, hy1x⟩; have hy1 := hd.trans (hy1x.mono hd.size); obtain ⟨uy10, uy11, uy12, uy13⟩ := U2.out.below hy1 hlt0; obtain ⟨vy10, vy11, vy12, vy13⟩ := V2.out.below hy1 hlt)
        | (go_at_call 26; (with_reducible refine Calls.mono (PAB y1 hy1).out ?_); rintro ee y2 ⟨rfl, hy2x⟩; have hy2 := hy1.trans (hy2x.mono hy1.size); obtain ⟨uy20, uy21, uy22, uy23⟩ := U2.out.below hy2 hlt0; obtain ⟨vy20, vy21, vy22, vy23⟩ := V2.out.below hy2 hlt)
        | (go_at_call 29; (with_reducible refine Calls.mono (IVA y2 hy2).out ?_); rintro ee y3 ⟨rfl, hy3x⟩; have hy3 := hy2.trans (hy3x.mono hy2.size); obtain ⟨uy30, uy31, uy32, uy33⟩ := U2.out.below hy3 hlt0; obtain ⟨vy30, vy31, vy32, vy33⟩ := V2.out.below hy3 hlt)
        | (go_at_call 30; (with_reducible refine Calls.mono (SVA y3 hy3).out ?_); rintro ee y4 ⟨rfl, hy4x⟩; have hy4 := hy3.trans (hy4x.mono hy3.size); obtain ⟨uy40, uy41, uy42, uy43⟩ := U2.out.below hy4 hlt0; obtain ⟨vy40, vy41, vy42, vy43⟩ := V2.out.below hy4 hlt)
        | (go_at_call 29; (with_reducible refine Calls.mono (IVB y4 hy4).out ?_); rintro ee y5 ⟨rfl, hy5x⟩; have hy5 := hy4.trans (hy5x.mono hy4.size); obtain ⟨uy50, uy51, uy52, uy53⟩ := U2.out.below hy5 hlt0; obtain ⟨vy50, vy51, vy52, vy53⟩ := V2.out.below hy5 hlt)
        | (go_at_call 30; (with_reducible refine Calls.mono (SVB y5 hy5).out ?_); rintro ee y6 ⟨rfl, hy6x⟩; have hy6 := hy5.trans (hy6x.mono hy5.size); obtain ⟨uy60, uy61, uy62, uy63⟩ := U2.out.below hy6 hlt0; obtain ⟨vy60, vy61, vy62, vy63⟩ := V2.out.below hy6 hlt))
    all_goals
      go_wp2_with fail
      go_meet
      exact ⟨rfl, hy6⟩
  case rest =>
    obtain ⟨rfl, hb3⟩ := hcut
    clear hbig'
    go_wp2_with fail
    go_loopw [5] (fun i wr => ∃ n : Nat, 3 ≤ n ∧ n ≤ 11 ∧ i = .int .i64 (n : Int) ∧ Below w2.heap.size w2 wr) (fun i _ => 11 - (intOf i).toNat)
    case atStart => exact ⟨3, by omega, by omega, rfl, hb3⟩
    case round =>
      obtain ⟨n, hn3, hn11, rfl, hb⟩ := hrel
      clear hb3
      by_cases hlk : n ≤ 10
      · have ho : 3 ≤ (n : Int) ∧ (n : Int) ≤ 10 := by omega
        obtain ⟨pE, xE, hlE, hbE⟩ := bin_mem wr a b A B c d (n : Int) (RA.out wr hb) (RB.out wr hb)
        have PE := Lib.hid pE
        have XE := Lib.hid xE
        have hb4 := hb.trans (hbE.mono hb.size)
        obtain ⟨u0, u1, u2, u3⟩ := U2.out.below hb hlt0
        obtain ⟨v0, v1, v2, v3⟩ := V2.out.below hb hlt
        clear pE xE
        go_upto_region 10 with (fail)
        clear u0 u1 u2 u3 v0 v1 v2 v3
        generalize hgE : wr.heap.size = gE at *
        clear hgE
        generalize (wr.alloc (.cells #[.int .i64 a.op, .int .i64 a.n, .string a.name, .slice A a.kids.length c, .int .i64 b.op, .int .i64 b.n, .string b.name, .slice B b.kids.length d] 28)).alloc (.cells #[.int .i64 (n : Int), .int .i64 0, .string ⟨#[]⟩, .slice (some ⟨gE, 0, none⟩) 2 2] 28) = w4 at *
        have hbk : bulkE (binE (n : Int) a b) ≤ 7000 := by have e1 : bulkE (binE (n : Int) a b) = (⟨#[]⟩ : ByteArray).size + (1 + bulkE a + (1 + bulkE b + 0)) := rfl; have e2 : (⟨#[]⟩ : ByteArray).size = 0 := rfl; omega
        have RE := Lib.hid (show ∀ W, Below w4.heap.size w4 W → PdS W (Between W 0 W.heap.size) (binE (n : Int) a b).kids (some ⟨gE, 0, none⟩) from fun W h => PE.out.later h (Nat.zero_le _) h.size)
        have TG4 := Lib.hid (show ∀ W, Below w4.heap.size w4 W → Tabs W ∧ NTabs W ∧ Sgn W from fun W h => TG.out W (hb4.trans (h.mono hb4.size)))
        have TX := implExprText_any (binE (n : Int) a b) (some ⟨gE, 0, none⟩) 2 w4 (RE.out w4 (Below.refl _ _)).between_rd (by omega) (TG4.out w4 (Below.refl _ _)).1 (TG4.out w4 (Below.refl _ _)).2.1 (TG4.out w4 (Below.refl _ _)).2.2
        obtain ⟨x0, x1, x2, x3⟩ := XE.out
        cases hv : validE (binE (n : Int) a b)
        · rw [textF_no hv] at TX
          unfold exV binE at TX
          dsimp only [E.op, E.n, E.name, E.kids, List.length_cons, List.length_nil] at TX
          replace TX := Lib.hid TX
          clear hv RE TG4 PE hbk
          go_wp2_with fail
          (with_reducible refine Calls.mono TX.out ?_)
          rintro ee w5 ⟨rfl, hb5⟩
          have hb6 := hb4.trans (hb5.mono hb4.size)
          clear hb5 TX x0 x1 x2 x3
          go_wp2_with fail
          go_roundw
          case rel => exact ⟨n + 1, by omega, by omega, by go_num, hb6⟩
          case measure => simp only [intOf]; omega
        · have ha : validE a = true := valid_kid hv (show a ∈ [a, b] by simp)
          have hbv : validE b = true := valid_kid hv (show b ∈ [a, b] by simp)
          have hrd := read_text hv
          have hbr := brT_read ho hv
          unfold brT at hbr
          have hse := textE_size hv
          have hsa := textE_size ha
          have hsb := textE_size hbv
          have hsum : sizeE (binE (n : Int) a b) = 1 + (sizeE a + (sizeE b + 0)) := rfl
          have hse30 := validE_size hv
          have XA := fun W h => implExprText_any a A c W (RA.out W h).between_rd (by omega) (TG.out W h).1 (TG.out W h).2.1 (TG.out W h).2.2
          have XB := fun W h => implExprText_any b B d W (RB.out W h).between_rd (by omega) (TG.out W h).1 (TG.out W h).2.1 (TG.out W h).2.2
          have NA := fun W h => implExprParts_any a A c W (RA.out W h).between_rd (by omega) (TG.out W h).1 (TG.out W h).2.2
          have NB := fun W h => implExprParts_any b B d W (RB.out W h).between_rd (by omega) (TG.out W h).1 (TG.out W h).2.2
          have NE := fun W h => implExprParts_any (binE (n : Int) a b) (some ⟨gE, 0, none⟩) 2 W (RE.out W h).between_rd (by omega) (TG4.out W h).1 (TG4.out W h).2.2
          have RD := fun W (h : Below w2.heap.size w2 W) => implReadExpr_any (textE (binE (n : Int) a b)) W (by omega) (TG.out W h).1 (TG.out W h).2.1 (TG.out W h).2.2
          have RD2 := fun W (h : Below w2.heap.size w2 W) => implReadExpr_any ((((((⟨#[40]⟩ ++ textE a) ++ ⟨#[41]⟩) ++ sgnS (n : Int)) ++ ⟨#[40]⟩) ++ textE b) ++ ⟨#[41]⟩) W (by simp only [ByteArray.size_append]; show 1 + (textE a).size + 1 + 1 + 1 + (textE b).size + 1 ≤ _; omega) (TG.out W h).1 (TG.out W h).2.1 (TG.out W h).2.2
          have ES := fun A' c' W (h : Below w4.heap.size w4 W) hR => implSame_walk (binE (n : Int) a b) (binE (n : Int) a b) A' c' (some ⟨gE, 0, none⟩) 2 W hR (RE.out W h) (by omega) (by omega)
          rw [eqB_yes] at ES
          rw [textF_yes hv] at TX
          rw [textF_yes ha] at XA
          rw [textF_yes hbv] at XB
          rw [if_pos ha] at NA
          rw [if_pos hbv] at NB
          rw [if_pos hv] at NE
          rw [hrd] at RD
          rw [hbr] at RD2
          unfold exV at XA XB NA NB NE TX
          unfold exV at ES
          obtain ⟨k, hk⟩ : ∃ k : Nat, n = k + 3 := ⟨n - 3, by omega⟩
          obtain ⟨k1, hk1⟩ : ∃ k1 : Nat, k1 = k + 1 := ⟨_, rfl⟩
          have hex : (⟨#[43, 45, 42, 47, 37, 60, 61, 38]⟩ : ByteArray).extract k k1 = sgnS (n : Int) := by
            have h8 : k = 0 ∨ k = 1 ∨ k = 2 ∨ k = 3 ∨ k = 4 ∨ k = 5 ∨ k = 6 ∨ k = 7 := by omega
            rw [hk1, hk]
            rcases h8 with rfl | rfl | rfl | rfl | rfl | rfl | rfl | rfl <;> decide
          have hsg : (sgnS (n : Int)).size = 1 := rfl
          unfold RdD at RD RD2
          have hie : (binE (n : Int) a b).op = (n : Int) ∧ (binE (n : Int) a b).n = 0 ∧ (binE (n : Int) a b).name = ⟨#[]⟩ ∧ (binE (n : Int) a b).kids.length = 2 := ⟨rfl, rfl, rfl, rfl⟩
          unfold exV at RD RD2
          dsimp only at RD RD2
          simp only [hie.1, hie.2.1, hie.2.2.1, hie.2.2.2] at TX NE ES RD RD2
          generalize binE (n : Int) a b = e at *
          generalize textE e = te at *
          generalize textE a = ta at *
          generalize textE b = tb at *
          generalize sizeE e = se at *
          generalize sizeE a = sa at *
          generalize sizeE b = sb at *
          generalize sgnS (n : Int) = sg at *
          replace TX := Lib.hid TX
          replace XA := fun W h => Lib.hid (XA W h)
          replace XB := fun W h => Lib.hid (XB W h)
          replace NA := fun W h => Lib.hid (NA W h)
          replace NB := fun W h => Lib.hid (NB W h)
          replace NE := fun W h => Lib.hid (NE W h)
          replace RD := fun W h => Lib.hid (RD W h)
          replace RD2 := fun W h => Lib.hid (RD2 W h)
          replace ES := fun A' c' W h hR => Lib.hid (ES A' c' W h hR)
          have HIE := Lib.hid hie
          have HKK := Lib.hid (And.intro hk hk1)
          clear hk hk1
          clear hv ha hbv hrd hbr hie RE TG4 PE hbk hba hbb
          go_wp2_with fail
          (with_reducible refine Calls.mono TX.out ?_)
          rintro ee w5 ⟨rfl, hb45⟩
          have hb5 := hb4.trans (hb45.mono hb4.size)
          obtain ⟨u0, u1, u2, u3⟩ := U2.out.below hb5 hlt0
          clear TX x0 x1 x2 x3
          go_wp2_with fail
          (with_reducible refine Calls.mono (XA w5 hb5).out ?_)
          rintro ee w6 ⟨rfl, hb56⟩
          have hb46 := hb45.trans (hb56.mono hb45.size)
          have hb6 := hb5.trans (hb56.mono hb5.size)
          obtain ⟨v0, v1, v2, v3⟩ := V2.out.below hb6 hlt
          clear XA u0 u1 u2 u3 hb45 hb56 hb5
          go_wp2_with fail
          (with_reducible refine Calls.mono (XB w6 hb6).out ?_)
          rintro ee w7 ⟨rfl, hb67⟩
          have hb47 := hb46.trans (hb67.mono hb46.size)
          have hb7 := hb6.trans (hb67.mono hb6.size)
          clear XB v0 v1 v2 v3 hb46 hb67 hb6
          go_wp2_with fail
          (with_reducible refine Calls.mono (RD w7 hb7).out ?_)
          rintro ee w8 ⟨A8, c8, rfl, hp8, hb78⟩
          have hs8 := hb78.size
          have hal8 := (Below.refl w8.heap.size w8).alloc (Nat.le_refl _) (.cells #[.int .i64 (n : Int), .int .i64 0, .string ⟨#[]⟩, .slice A8 2 c8] 28)
          have X9 := Lib.hid (Bx4.new w8 (.int .i64 (n : Int)) (.int .i64 0) (.string ⟨#[]⟩) (.slice A8 2 c8) 28)
          have hz9 : (w8.alloc (.cells #[.int .i64 (n : Int), .int .i64 0, .string ⟨#[]⟩, .slice A8 2 c8] 28)).heap.size = w8.heap.size + 1 := World.size_alloc _ _
          have hb79 := hb78.trans (hal8.mono hs8)
          have hb49 := hb47.trans (hb79.mono hb47.size)
          have hb9 := hb7.trans (hb79.mono hb7.size)
          have P9 := Lib.hid (PdS.later hp8.pd hal8 (Nat.zero_le _) hal8.size)
          clear RD hp8 hal8 hb78 hb79 hb47 hb7
          go_upto_region 15 with (fail)
          generalize w8.alloc (.cells #[.int .i64 (n : Int), .int .i64 0, .string ⟨#[]⟩, .slice A8 2 c8] 28) = w9 at *
          have hx9 : w8.heap.size < w9.heap.size := by omega
          obtain ⟨hk, hk1⟩ := HKK.out
          have e1 : (n : Int) - 3 = (k : Int) := by omega
          have e2 : (k : Int) + 1 = (k1 : Int) := by omega
          have hkb : k ≤ 7 := by omega
          have hk1b : k1 ≤ 8 := by omega
          have hkk : k ≤ k1 := by omega
          have RD29 := Lib.hid (RD2 w9 hb9).out
          clear RD2 hk hk1
          go_wp2_with fail
          (with_reducible refine Calls.mono RD29.out ?_)
          rintro ee w10 ⟨A10, c10, rfl, hp10, hb910⟩
          have hs10 := hb910.size
          have hal10 := (Below.refl w10.heap.size w10).alloc (Nat.le_refl _) (.cells #[.int .i64 (n : Int), .int .i64 0, .string ⟨#[]⟩, .slice A10 2 c10] 28)
          have Y11 := Lib.hid (Bx4.new w10 (.int .i64 (n : Int)) (.int .i64 0) (.string ⟨#[]⟩) (.slice A10 2 c10) 28)
          have hz11 : (w10.alloc (.cells #[.int .i64 (n : Int), .int .i64 0, .string ⟨#[]⟩, .slice A10 2 c10] 28)).heap.size = w10.heap.size + 1 := World.size_alloc _ _
          have hb911 := hb910.trans (hal10.mono hs10)
          have hb411 := hb49.trans (hb911.mono hb49.size)
          have hb11 := hb9.trans (hb911.mono hb9.size)
          have P11 := Lib.hid (PdS.later hp10.pd hal10 (Nat.zero_le _) hal10.size)
          have PX11 := Lib.hid (PdS.later P9.out hb911 (Nat.zero_le _) hb911.size)
          have X11 := Lib.hid (X9.out.below hb911 hx9)
          clear RD29 hp10 hal10 hb910 P9 X9 e1 e2 hex
          go_upto_region 16 with (fail)
          generalize w10.alloc (.cells #[.int .i64 (n : Int), .int .i64 0, .string ⟨#[]⟩, .slice A10 2 c10] 28) = w11 at *
          have hyl : w10.heap.size < w11.heap.size := by omega
          have hxl : w8.heap.size < w11.heap.size := Nat.lt_of_lt_of_le hx9 hb911.size
          have E11 := Lib.hid (XE.out.below hb411 hlE)
          have hel : gE + 1 < w11.heap.size := Nat.lt_of_lt_of_le hlE hb411.size
          have U11 := Lib.hid (U2.out.below hb11 hlt0)
          have V11 := Lib.hid (V2.out.below hb11 hlt)
          have hul : w1.heap.size < w11.heap.size := Nat.lt_of_lt_of_le hlt0 hb11.size
          have hvl : w1.heap.size + 1 < w11.heap.size := Nat.lt_of_lt_of_le hlt hb11.size
          clear hb911 hb49 hb9
          go_cut [123] from 95 to 123 (fun c wx => c = .bool false ∧ Below w11.heap.size w11 wx)
          case first =>
            have C1 := fun W (h : Below w11.heap.size w11 W) => Lib.hid (ES A8 c8 W (hb411.trans (h.mono hb411.size)) (PX11.out.later h (Nat.zero_le _) h.size)).out
            have C2 := fun W (h : Below w11.heap.size w11 W) => Lib.hid (ES A10 c10 W (hb411.trans (h.mono hb411.size)) (P11.out.later h (Nat.zero_le _) h.size)).out
            have C3 := fun W (h : Below w11.heap.size w11 W) => Lib.hid (NE W (hb411.trans (h.mono hb411.size))).out
            have C4 := fun W (h : Below w11.heap.size w11 W) => Lib.hid (NA W (hb11.trans (h.mono hb11.size))).out
            have C5 := fun W (h : Below w11.heap.size w11 W) => Lib.hid (NB W (hb11.trans (h.mono hb11.size))).out
            unfold NumBelow at C3 C4 C5
            have hse1 : ((se : Int) != ((sa : Int) + (sb : Int) + 1)) = false := by rw [bne, beq_yes (by omega)]; rfl
            have hsa30 : sa ≤ 30 := by omega
            have hsb30 : sb ≤ 30 := by omega
            have hd := (Below.refl w11.heap.size w11).drew
            obtain ⟨xa0, xa1, xa2, xa3⟩ := X11.out
            obtain ⟨ya0, ya1, ya2, ya3⟩ := Y11.out
            obtain ⟨ea0, ea1, ea2, ea3⟩ := E11.out
            obtain ⟨ua0, ua1, ua2, ua3⟩ := U11.out
            obtain ⟨va0, va1, va2, va3⟩ := V11.out
            clear ES NE NA NB PX11 P11 hb411 hb11 hb4 hb RA RB TG HB2 hsum XE U2 V2
            go_region_held3 (fun u => u.cell? ⟨w8.heap.size, 0, none⟩ = some (.int .i64 (n : Int)) ∧ u.cell? ⟨w8.heap.size, 1, none⟩ = some (.int .i64 0) ∧ u.cell? ⟨w8.heap.size, 2, none⟩ = some (.string ⟨#[]⟩) ∧ u.cell? ⟨w8.heap.size, 3, none⟩ = some (.slice A8 2 c8) ∧ u.cell? ⟨w10.heap.size, 0, none⟩ = some (.int .i64 (n : Int)) ∧ u.cell? ⟨w10.heap.size, 1, none⟩ = some (.int .i64 0) ∧ u.cell? ⟨w10.heap.size, 2, none⟩ = some (.string ⟨#[]⟩) ∧ u.cell? ⟨w10.heap.size, 3, none⟩ = some (.slice A10 2 c10) ∧ u.cell? ⟨gE + 1, 0, none⟩ = some (.int .i64 (n : Int)) ∧ u.cell? ⟨gE + 1, 1, none⟩ = some (.int .i64 0) ∧ u.cell? ⟨gE + 1, 2, none⟩ = some (.string ⟨#[]⟩) ∧ u.cell? ⟨gE + 1, 3, none⟩ = some (.slice (some ⟨gE, 0, none⟩) 2 2) ∧ u.cell? ⟨w1.heap.size, 0, none⟩ = some (.int .i64 a.op) ∧ u.cell? ⟨w1.heap.size, 1, none⟩ = some (.int .i64 a.n) ∧ u.cell? ⟨w1.heap.size, 2, none⟩ = some (.string a.name) ∧ u.cell? ⟨w1.heap.size, 3, none⟩ = some (.slice A a.kids.length c) ∧ u.cell? ⟨w1.heap.size + 1, 0, none⟩ = some (.int .i64 b.op) ∧ u.cell? ⟨w1.heap.size + 1, 1, none⟩ = some (.int .i64 b.n) ∧ u.cell? ⟨w1.heap.size + 1, 2, none⟩ = some (.string b.name) ∧ u.cell? ⟨w1.heap.size + 1, 3, none⟩ = some (.slice B b.kids.length d)) (go_keep)
              (first
                | (go_at_call 25; (with_reducible refine Calls.mono (C1 w11.drew hd).out ?_); rintro ee t1 ⟨rfl, hy1x⟩; have hy1 := hd.trans (hy1x.mono hd.size); obtain ⟨xt10, xt11, xt12, xt13⟩ := X11.out.below hy1 hxl; obtain ⟨yt10, yt11, yt12, yt13⟩ := Y11.out.below hy1 hyl; obtain ⟨et10, et11, et12, et13⟩ := E11.out.below hy1 hel; obtain ⟨ut10, ut11, ut12, ut13⟩ := U11.out.below hy1 hul; obtain ⟨vt10, vt11, vt12, vt13⟩ := V11.out.below hy1 hvl)
                | (go_at_call 25; (with_reducible refine Calls.mono (C2 t1 hy1).out ?_); rintro ee t2 ⟨rfl, hy2x⟩; have hy2 := hy1.trans (hy2x.mono hy1.size); obtain ⟨xt20, xt21, xt22, xt23⟩ := X11.out.below hy2 hxl; obtain ⟨yt20, yt21, yt22, yt23⟩ := Y11.out.below hy2 hyl; obtain ⟨et20, et21, et22, et23⟩ := E11.out.below hy2 hel; obtain ⟨ut20, ut21, ut22, ut23⟩ := U11.out.below hy2 hul; obtain ⟨vt20, vt21, vt22, vt23⟩ := V11.out.below hy2 hvl)
                | (go_at_call 32; (with_reducible refine Calls.mono (C3 t2 hy2).out ?_); rintro ee t3 ⟨rfl, hy3x⟩; have hy3 := hy2.trans (hy3x.mono hy2.size); obtain ⟨xt30, xt31, xt32, xt33⟩ := X11.out.below hy3 hxl; obtain ⟨yt30, yt31, yt32, yt33⟩ := Y11.out.below hy3 hyl; obtain ⟨et30, et31, et32, et33⟩ := E11.out.below hy3 hel; obtain ⟨ut30, ut31, ut32, ut33⟩ := U11.out.below hy3 hul; obtain ⟨vt30, vt31, vt32, vt33⟩ := V11.out.below hy3 hvl)
                | (go_at_call 32; (with_reducible refine Calls.mono (C4 t3 hy3).out ?_); rintro ee t4 ⟨rfl, hy4x⟩; have hy4 := hy3.trans (hy4x.mono hy3.size); obtain ⟨xt40, xt41, xt42, xt43⟩ := X11.out.below hy4 hxl; obtain ⟨yt40, yt41, yt42, yt43⟩ := Y11.out.below hy4 hyl; obtain ⟨et40, et41, et42, et43⟩ := E11.out.below hy4 hel; obtain ⟨ut40, ut41, ut42, ut43⟩ := U11.out.below hy4 hul; obtain ⟨vt40, vt41, vt42, vt43⟩ := V11.out.below hy4 hvl)
                | (go_at_call 32; (with_reducible refine Calls.mono (C5 t4 hy4).out ?_); rintro ee t5 ⟨rfl, hy5x⟩; have hy5 := hy4.trans (hy5x.mono hy4.size); obtain ⟨xt50, xt51, xt52, xt53⟩ := X11.out.below hy5 hxl; obtain ⟨yt50, yt51, yt52, yt53⟩ := Y11.out.below hy5 hyl; obtain ⟨et50, et51, et52, et53⟩ := E11.out.below hy5 hel; obtain ⟨ut50, ut51, ut52, ut53⟩ := U11.out.below hy5 hul; obtain ⟨vt50, vt51, vt52, vt53⟩ := V11.out.below hy5 hvl))
            all_goals
              go_wp2_with fail
              go_meet
              exact ⟨by first | rfl | (rw [IntWalk.i64_in ((sa : Int) + (sb : Int)) (by omega), IntWalk.i64_in _ (by omega), hse1]), hy5⟩
          case rest =>
            obtain ⟨rfl, hb12⟩ := hcut
            have hbx := hb11.trans (hb12.mono hb11.size)
            clear hb12 ES NE NA NB
            go_wp2_with fail
            go_roundw
            case rel => exact ⟨n + 1, by omega, by omega, by go_num, hbx⟩
            case measure => simp only [intOf]; omega
      · obtain rfl : n = 11 := by omega
        have hb9 := HB2.out.trans (hb.mono HB2.out.size)
        go_wp2_with fail
        go_ret
        exact ⟨rfl, hb9⟩
end Go.Proofs.YtljdbjfbcjigaaaGreatDoor

namespace Go.Proofs.YtljdbjfbcjigaaaGreatDoor
open Go.ChangeShapes Go.WideShapes Go.ChangeAt Go.RowKit Go.WideMaps
open Go.ChangeMaps (open_string)
set_option maxRecDepth 100000

namespace ExOpsBind
theorem plain : (Rows.fnOpsBindRow.laid.all fun x => x.2.handleName?.isNone) = true := by kernel_rfl
/-- The door's own heap meets the condition: three closed facts. -/
theorem door_met (os : Os) (args : Array Value) : laidMetH Tryz.prog Rows.fnOpsBindRow.laid ((World.doorLaid Tryz.prog 400 os).forCall (fun _ _ => 0) ⟨#[], args, []⟩).memory :=
  laidMetH_of_parts3 (fuel := 8) (laidMet_of_run' 8 (by kernel_rfl) (by kernel_rfl)) (by kernel_rfl) (by kernel_rfl)
theorem lifted (os : Os) (started : os.Started) (H : Type) (enc : TypeId × Value → H) :
    ReturnsInHanded {} Tryz.checked os 6 .any (fun w args => (Rows.fnOpsBindSpec.pre enc Tryz.prog Tryz.f6 [] false w args ∧ laidMetH Tryz.prog Rows.fnOpsBindRow.laid w) ∧ sizedMet enc Tryz.prog Tryz.f6 (OpenSpec.ofChange Rows.fnOpsBindSpec) false w args)
      (Rows.fnOpsBindSpec.post enc Tryz.prog Tryz.f6 false true false false) := by
  refine returnsInHanded_of_change_and (C := Tryz.checked) (X := fun w _ => laidMetH Tryz.prog Rows.fnOpsBindRow.laid w) (fun _ _ _ hh h => h.of_heap hh) ownNone started (by kernel_rfl) Tryz.func6
    (ChangeSpec.witness_shaped (enc := enc) (C := Tryz.checked) (os := os) (X := fun w _ => laidMetH Tryz.prog Rows.fnOpsBindRow.laid w) false (World.doorLaid Tryz.prog 400 os) #[.slice none 0 0] 8 rfl (World.shaped_of_RefB (by kernel_rfl) (by kernel_rfl)) (by kernel_rfl) (by kernel_rfl) (by kernel_rfl) (door_met os _)) ?_
  intro W base args ds gs before hval0 hW _ hsz hL0 _
  have hval : ∀ (j : Nat) t v, Tryz.f6.params[j]? = some t → args[j]? = some v → Value.okWide Tryz.prog W .any base t v := hval0
  have hL : laidMet Tryz.prog Rows.fnOpsBindRow.laid W := by rw [← MakeChecks.laidMetH_plain _ _ _ plain]; exact hL0
  have hWhole := hW
  obtain ⟨p, q, hA0, hV, rfl, hfz, hnd⟩ := hW
  have hA : DataW.TrodAll enc Tryz.prog W 0 (fun _ => true) true Tryz.f6.params.toList args.toList ds p := hA0
  rw [Tryz.params6] at hA hval
  clear hA0 hval0 hL0
  obtain ⟨v0, d0, rfl, rfl, h0⟩ := trodAll_one hA
  obtain ⟨A, l, cap, rfl, hB, hn, hcap⟩ := open_byteS Tryz.underlying50 Tryz.underlying5 (by kernel_rfl) (hval 0 50 v0 rfl rfl) h0
  have N : NTabs W := ntabs_of_laid hL (by simp [Rows.fnOpsBindRow]) (by simp [Rows.fnOpsBindRow]) (by simp [Rows.fnOpsBindRow]) (by simp [Rows.fnOpsBindRow])
  have T : Tabs W := tabs_of_laid hL (by simp [Rows.fnOpsBindRow]) (by simp [Rows.fnOpsBindRow])
  have G : Sgn W := sgn_of_laid hL (by simp [Rows.fnOpsBindRow])
  obtain ⟨g1, g2, g3, rfl⟩ : ∃ g1 g2 g3, gs = [g1, g2, g3] := vars_three hV
  refine (fnOpsBind_walk A l cap W hB hn hcap T N G).mono fun e W' ⟨he, hb⟩ => ⟨_, he, ?_⟩
  exact law_post laidOut (by kernel_rfl) (by kernel_rfl) (by kernel_rfl) Tryz.underlying4 rfl hWhole hb
end ExOpsBind
end Go.Proofs.YtljdbjfbcjigaaaGreatDoor

namespace Go.Proofs.YtljdbjfbcjigaaaGreatDoor
open Go.ChangeShapes Go.WideShapes Go.ChangeAt Go.RowKit Go.WideMaps
open Go.ChangeMaps (open_string)
set_option maxRecDepth 100000

namespace ExOpsBind
theorem k_inst : (Tryz.f6).isInstance Tryz.pinned.checked.prog Rows.fnOpsBindRow.origin Rows.fnOpsBindRow.targs := of_decide_eq_true (by kernel_rfl)
theorem k_inp : (Rows.fnOpsBindRow.inPlace == Tryz.prog.inPlace 6) = true := by kernel_rfl
theorem k_unf : (Rows.fnOpsBindRow.unfollowed == Tryz.prog.unfollowed 6) = true := by kernel_rfl
theorem k_rec : (Rows.fnOpsBindRow.recurses == Tryz.prog.recurses 6) = true := by kernel_rfl
theorem k_var : (Rows.fnOpsBindRow.named == Tryz.prog.varsNamed 6) = true := by kernel_rfl
theorem k_may : Tryz.prog.mayEnter = true := by kernel_rfl
theorem k_lift : (Rows.fnOpsBindRow.lifted == Tryz.prog.liftsFinal) = true := by kernel_rfl
theorem k_laid : laidOutB Tryz.prog = true := by kernel_rfl
theorem k_maps : mapsRowed Tryz.prog = true := by kernel_rfl
theorem k_heard : Tryz.prog.stopsHeard = true := by kernel_rfl
theorem k_named : namedTie Tryz.prog Rows.fnOpsBindRow.named Rows.fnOpsBindSpec.vars = true := by kernel_rfl
theorem k_closed : joinedFacts Tryz.prog 6 Tryz.f6 Rows.fnOpsBindSpec Rows.fnOpsBindRow = true := by
  unfold joinedFacts
  rw [k_laid, k_maps, k_named, k_inp, k_unf, k_rec, k_var, k_may, k_lift, k_heard]
  kernel_rfl
theorem row_holds : Rows.FnOpsBindSaid :=
  OpenClaim.holds_of_wide 6 Tryz.f6 rfl rfl rfl rfl rfl rfl rfl ⟨rfl, rfl, rfl, rfl, rfl⟩ rfl rfl rfl rfl rfl (by kernel_rfl) Tryz.func6 k_closed
    k_inst (by unfold Func.isWrapper; first | (rw [if_pos (by decide +kernel)]; kernel_rfl) | (rw [if_neg (by decide +kernel)]; exact ⟨rfl, rfl⟩))
    (fun os started H enc _ => lifted os started H enc)
theorem holds : Rows.FnOpsBindCardSaid :=
  Claim7.holds_tied_plain_at .later [] Rows.fnOpsBindCard.laidKinds true Rows.fnOpsBindCard.stood.harness Rows.fnOpsBindCard.stood.looks
    row_holds (fun _ h => by cases h) (by kernel_rfl) (fun _ h => by cases h) fnOpsBind_row_tie rfl ⟨rfl, rfl⟩ (by kernel_rfl) rfl
    (fun f fn hf hfn => by
      obtain rfl : f = 6 := Option.some.inj ((show Tryz.prog.funcNamed Rows.fnOpsBindRow.func = some 6 by kernel_rfl).symm.trans hf) |>.symm
      obtain rfl : fn = Tryz.f6 := (Option.some.inj (Tryz.func6.symm.trans hfn)).symm
      exact ⟨by kernel_rfl, fun j t ht => by
        have hall : (Tryz.f6.params.toList.all fun u => !Tryz.prog.wantsStandIn u) = true := by kernel_rfl
        exact (show Tryz.prog.wantsStandIn t = false by simpa using List.all_eq_true.1 hall t (by simpa using Array.mem_of_getElem? ht))⟩)
    (by kernel_rfl)
#print axioms holds
end ExOpsBind
end Go.Proofs.YtljdbjfbcjigaaaGreatDoor
