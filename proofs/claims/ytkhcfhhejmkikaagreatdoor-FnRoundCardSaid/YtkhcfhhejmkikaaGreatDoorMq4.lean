/-
  For every stream of bytes the drawn text of the document's chapter 2 is read the same with brackets around it if they are even, and not at all if they are not. Conditions: the program's tables and the library's variables stand as their text lays them (tied by the card).
-/
import Derived.Test.YtkhcfhhejmkikaaGreatDoorMg19
import Derived.Test.YtkhcfhhejmkikaaGreatDoorMg34
import Derived.Test.YtkhcfhhejmkikaaGreatDoorMg36
import Derived.Test.YtkhcfhhejmkikaaGreatDoorMg4
import Derived.Test.YtkhcfhhejmkikaaGreatDoorMg7
import Derived.Test.YtkhcfhhejmkikaaGreatDoorMg8
import Derived.Test.YtkhcfhhejmkikaaGreatDoorMq1
import Derived.Test.YtkhcfhhejmkikaaGreatDoorMq2
import Derived.Test.YtkhcfhhejmkikaaGreatDoorMq3
import Derived.Test.YtkhcfhhejmkikaaGreatDoorRows
import Derived.ShapedOpen
import Derived.Test.YtkhcfhhejmkikaaGreatDoorCards
import Derived.Test.YtkhcfhhejmkikaaGreatDoorTie
import Derived.SevenTiedAt
namespace Go.Proofs.YtkhcfhhejmkikaaGreatDoor
open Go.RowKit
set_option maxRecDepth 100000

def dxA : List ByteArray := [⟨#[32, 41]⟩, ⟨#[32, 43]⟩, ⟨#[32, 97]⟩, ⟨#[32, 40, 32, 41]⟩, ⟨#[44]⟩]
def dxB : List ByteArray := [⟨#[40]⟩, ⟨#[45, 32]⟩, ⟨#[33, 32, 33, 32, 64]⟩, ⟨#[40, 32, 40, 32]⟩, ⟨#[102, 32, 40]⟩]
def dxC : List ByteArray := [⟨#[]⟩, ⟨#[41]⟩, ⟨#[41, 41]⟩]
theorem dxA_le : ∀ s ∈ dxA, s.size ≤ 8 := by decide
theorem dxB_le : ∀ s ∈ dxB, s.size ≤ 8 := by decide
theorem dxC_le : ∀ s ∈ dxC, s.size ≤ 8 := by decide
theorem dxA_cut : ∀ t ∈ dxA, ∃ b c, t.data.toList = b :: c ∧ c.length ≤ 7 ∧ Edge b := by
  intro t ht
  simp only [dxA, List.mem_cons, List.not_mem_nil, or_false] at ht
  rcases ht with rfl | rfl | rfl | rfl | rfl
  · exact ⟨32, [41], rfl, by decide, .inr (by decide)⟩
  · exact ⟨32, [43], rfl, by decide, .inr (by decide)⟩
  · exact ⟨32, [97], rfl, by decide, .inr (by decide)⟩
  · exact ⟨32, [40, 32, 41], rfl, by decide, .inr (by decide)⟩
  · exact ⟨44, [], rfl, by decide, .inl (by decide)⟩
theorem dxB_cut : ∀ t ∈ dxB, ∃ p b, t.data.toList = p ++ [b] ∧ p.length ≤ 7 ∧ Edge b := by
  intro t ht
  simp only [dxB, List.mem_cons, List.not_mem_nil, or_false] at ht
  rcases ht with rfl | rfl | rfl | rfl | rfl
  · exact ⟨[], 40, rfl, by decide, .inl (by decide)⟩
  · exact ⟨[45], 32, rfl, by decide, .inr (by decide)⟩
  · exact ⟨[33, 32, 33, 32], 64, rfl, by decide, .inl (by decide)⟩
  · exact ⟨[40, 32, 40], 32, rfl, by decide, .inr (by decide)⟩
  · exact ⟨[102, 32], 40, rfl, by decide, .inl (by decide)⟩
theorem dxC_cut : ∀ t ∈ dxC, AllL 41 t.data.toList ∧ t.size ≤ 2 := by
  intro t ht
  simp only [dxC, List.mem_cons, List.not_mem_nil, or_false] at ht
  rcases ht with rfl | rfl | rfl
  · exact ⟨fun x hx => by simp at hx, by decide⟩
  · exact ⟨fun x hx => by simpa using hx, by decide⟩
  · exact ⟨fun x hx => by simpa using hx, by decide⟩
theorem app_list (s t : ByteArray) : (s ++ t).data.toList = s.data.toList ++ t.data.toList := by simp
theorem few_a {s t : ByteArray} (h : Cn s.data.toList 156) (ht : t ∈ dxA) : Few (s ++ t) := by
  obtain ⟨b, c, e, hc, hb⟩ := dxA_cut t ht
  refine .inl ?_
  rw [app_list, e]
  exact (h.behind c hb).mono (by omega)
theorem few_b {s t u : ByteArray} (h : Cn s.data.toList 156) (ht : t ∈ dxB) (hu : u ∈ dxC) : Few (t ++ s ++ u) := by
  obtain ⟨p, b, e, hp, hb⟩ := dxB_cut t ht
  obtain ⟨ha, hz⟩ := dxC_cut u hu
  refine .inl ?_
  rw [app_list, app_list, e, List.append_assoc, List.append_assoc]
  have hl : u.data.toList.length = u.size := by simp
  have h1 := (h.behinds (.inl (by decide)) ha).ahead p hb
  exact h1.mono (by omega)
theorem few_c {s t u : ByteArray} (h : Cn s.data.toList 156) (ht : AllIs 40 t) (hu : AllIs 41 u) (h1 : t.size ≤ 100) (h2 : u.size ≤ 100) : Few (t ++ s ++ u) := by
  refine .inl ?_
  rw [app_list, app_list, List.append_assoc]
  have hl1 : t.data.toList.length = t.size := by simp
  have hl2 : u.data.toList.length = u.size := by simp
  have h1 := (h.behinds (b := 41) (.inl (by decide)) hu).aheads (b := 40) (.inl (by decide)) ht
  exact h1.mono (by omega)
theorem few_t {s : ByteArray} (h : s.size ≤ 249 ∨ ∃ r, s.data.toList = 59 :: r) : Few s := by
  rcases h with h | h
  · have hl : s.data.toList.length = s.size := by simp
    exact .inl ((cn_bytes _).mono (by omega))
  · exact .inr h
def TextDrawX (w : World) (e : Ending) (w' : World) : Prop := ∃ s : ByteArray, s.size ≤ 100000 ∧ Few s ∧ e = .returned (.string s) ∧ Below w.heap.size w w'
set_option maxHeartbeats 8000000 in
theorem drawReadExpr_any (A : Option Addr) (l : List UInt8) (cap : Nat) (w : World) (h : Bytes w w.heap.size A l) (hn : l.length ≤ cap) (hcap : cap ≤ 9223372036854775807) :
    Calls Tryz.prog 21 #[.slice A l.length cap] w (TextDrawX w) := by
  have OP := Lib.hid (l30Open_any A l cap w h hn hcap)
  have TX := fun q W hR hq => Lib.hid (l1Text_F w.heap.size q W hR hq)
  clear h
  go_enter Tryz.func21, Tryz.ntmps21
  go_wp2_with fail
  refine OP.out.mono ?_
  rintro e w1 ⟨rfl, hR1, hb1⟩
  have PK := Lib.hid (pick_t w.heap.size 0 4 w1 hR1 (by omega) (by omega) (by omega))
  have HB1 := Lib.hid hb1
  clear OP hb1 hR1
  go_wp2_with fail
  refine Calls.mono PK.out ?_
  rintro ee w2 ⟨r, hr, rfl, hd2⟩
  obtain ⟨p2, hp2, hr2⟩ := hd2.1
  have D2 := Lib.hid (HB1.out.trans hd2.2.below)
  clear hd2 PK HB1
  by_cases hz : r = 0
  · subst hz
    have T2 := Lib.hid (TX p2 w2 hr2 (by omega)).out
    clear TX hr2
    go_wp2_with fail
    refine Calls.mono T2.out ?_
    rintro ee w3 ⟨s, hs, hf3, rfl, hd3⟩
    have HFW := Lib.hid (few_t hf3)
    clear hf3
    have hb3 := D2.out.trans hd3.2
    clear hd3 T2 D2
    go_wp2_with fail
    go_ret
    exact ⟨s, by omega, HFW.out, rfl, hb3⟩
  have q0 : ((r : Int) == 0) = false := beq_no (by omega)
  have hR2 := hr2.lt
  have LX := Lib.hid (l2Any_F w.heap.size p2 4 (by omega) w2 hr2 (by show p2 + 124 + 200 ≤ _; omega))
  clear TX hr2
  go_wp2_with fail
  refine Calls.mono LX.out ?_
  rintro ee w3 ⟨e, A3, c3, rfl, hk3, hbk, hf, hsz, hd3⟩
  have hsz' : sizeE e ≤ 26 := hsz
  have HCN := Lib.hid (fun k => (cn_text hf k).mono (show 6 * sizeE e ≤ 156 by omega))
  clear hsz hsz'
  have HF := Lib.hid hf
  have hbk' : bulkE e ≤ 648 := hbk
  unfold exV
  obtain ⟨p3, hp3, hr3⟩ := hd3.1
  have hp3' : p3 ≤ p2 + 274 := hp3
  have D3 := Lib.hid (D2.out.trans hd3.2.below)
  have K3 := Lib.hid hk3
  have NM := Lib.hid (num_t w.heap.size p3 [1, 6, 1] w3 3 (0, 0) hr3 (by omega) (by simp) (by simp))
  clear hf hk3 hd3 hp3 hbk LX D2 q0 hr3
  go_wp2_with fail
  refine Calls.mono NM.out ?_
  rintro ee w4 ⟨z, hz4, rfl, hd4⟩
  obtain ⟨k, rfl, hk6⟩ : ∃ k : Nat, z = (k : Int) ∧ k ≤ 6 := by
    simp at hz4
    exact ⟨z.toNat, by omega, by omega⟩
  obtain ⟨p4, hp4, hr4⟩ := hd4.1
  have T4 := l2Text_any _ e HF.out k hk6 A3 c3 w4 ((K3.out.touch hd4.2 hR2).pd.between_rd) (by have := sizeE_bulk e; omega)
  have hts := wE_tx_size HF.out k
  have hsb := sizeE_bulk e
  have D4 := Lib.hid (D3.out.trans hd4.2.below)
  have HR4 := Lib.hid hr4
  have HCS := Lib.hid (HCN.out k)
  clear HCN
  unfold exV at T4
  generalize tx (wE e k) = s at *
  have hs : s.size ≤ 20000 := by omega
  replace T4 := Lib.hid T4
  clear hd4 hr4 hts hsb hz4 K3 NM D3 HF
  go_wp2_with fail
  (with_reducible refine Calls.mono T4.out ?_)
  rintro ee w5 ⟨rfl, hb5⟩
  have D5 := Lib.hid (D4.out.trans (hb5.mono D4.out.size))
  have PK := Lib.hid (pick_t w.heap.size p4 8 w5 (HR4.out.keep hb5) (by omega) (by omega) (by omega))
  clear hb5 T4 D4 HR4
  go_wp2_with fail
  refine Calls.mono PK.out ?_
  rintro ee w6 ⟨r6, hr6, rfl, hd6⟩
  obtain ⟨p6, hp6, hr6'⟩ := hd6.1
  have D6 := Lib.hid (D5.out.trans hd6.2.below)
  clear hd6 D5 PK
  have hcase : r6 = 0 ∨ r6 = 1 ∨ r6 = 2 ∨ 3 ≤ r6 := by omega
  rcases hcase with rfl | rfl | rfl | h3
  · have OF := Lib.hid (oflit_t w.heap.size p6 dxA w6 9 (0, 0) hr6' (by omega) (by decide) (by decide))
    clear hr6'
    go_wp2_with fail
    refine Calls.mono OF.out ?_
    rintro ee w7 ⟨t, ht, rfl, hd7⟩
    have ht8 := dxA_le t ht
    have HFW := Lib.hid (few_a HCS.out ht)
    have hb7 := D6.out.trans hd7.2.below
    clear hd7 OF ht D6
    go_wp2_with fail
    go_ret
    exact ⟨_, by rw [ByteArray.size_append]; omega, HFW.out, rfl, hb7⟩
  · have OF := Lib.hid (oflit_t w.heap.size p6 dxB w6 9 (0, 0) hr6' (by omega) (by decide) (by decide))
    clear hr6'
    go_wp2_with fail
    refine Calls.mono OF.out ?_
    rintro ee w7 ⟨t, ht, rfl, hd7⟩
    have ht8 := dxB_le t ht
    have HTB := Lib.hid ht
    obtain ⟨p7, hp7, hr7⟩ := hd7.1
    have D7 := Lib.hid (D6.out.trans hd7.2.below)
    have OF2 := Lib.hid (oflit_t w.heap.size p7 dxC w7 9 (0, 0) hr7 (by omega) (by decide) (by decide))
    clear hd7 OF ht D6 hr7
    go_wp2_with fail
    refine Calls.mono OF2.out ?_
    rintro ee w8 ⟨u, hu, rfl, hd8⟩
    have hu8 := dxC_le u hu
    have HFW := Lib.hid (few_b HCS.out HTB.out hu)
    have hb8 := D7.out.trans hd8.2.below
    clear hd8 OF2 hu D7
    go_wp2_with fail
    go_ret
    exact ⟨_, by rw [ByteArray.size_append, ByteArray.size_append]; omega, HFW.out, rfl, hb8⟩
  · have NM := Lib.hid (num_t w.heap.size p6 [1, 2, 20, 100] w6 3 (0, 0) hr6' (by omega) (by simp) (by simp))
    clear hr6'
    go_wp2_with fail
    refine Calls.mono NM.out ?_
    rintro ee w7 ⟨z, hz7, rfl, hd7⟩
    obtain ⟨m, rfl, hm⟩ : ∃ m : Nat, z = (m : Int) ∧ m ≤ 100 := by
      simp at hz7
      exact ⟨z.toNat, by omega, by omega⟩
    obtain ⟨p7, hp7, hr7⟩ := hd7.1
    have D7 := Lib.hid (D6.out.trans hd7.2.below)
    have HR7 := Lib.hid hr7
    have MN := Lib.hid (l30Many_F 40 m w7 (by omega))
    clear hd7 NM hz7 D6 hr7
    go_wp2_with fail
    refine Calls.mono MN.out ?_
    rintro ee w8 ⟨t, ht1, ha8, _, rfl, hb8⟩
    have HA8 := Lib.hid ha8
    clear ha8
    have D8 := Lib.hid (D7.out.trans (hb8.mono D7.out.size))
    have NM2 := Lib.hid (num_t w.heap.size p7 [1, 2, 20, 100] w8 3 (0, 0) (HR7.out.keep hb8) (by omega) (by simp) (by simp))
    clear hb8 MN D7 HR7
    go_wp2_with fail
    refine Calls.mono NM2.out ?_
    rintro ee w9 ⟨z, hz9, rfl, hd9⟩
    obtain ⟨m2, rfl, hm2⟩ : ∃ m : Nat, z = (m : Int) ∧ m ≤ 100 := by
      simp at hz9
      exact ⟨z.toNat, by omega, by omega⟩
    have D9 := Lib.hid (D8.out.trans hd9.2.below)
    have MN2 := Lib.hid (l30Many_F 41 m2 w9 (by omega))
    clear hd9 NM2 hz9 D8
    go_wp2_with fail
    refine Calls.mono MN2.out ?_
    rintro ee w10 ⟨u, hu1, ha10, _, rfl, hb10⟩
    have HFW := Lib.hid (few_c HCS.out HA8.out ha10 (by omega) (by omega))
    clear ha10
    have hb11 := D9.out.trans (hb10.mono D9.out.size)
    clear hb10 MN2 D9
    go_wp2_with fail
    go_ret
    exact ⟨_, by rw [ByteArray.size_append, ByteArray.size_append]; omega, HFW.out, rfl, hb11⟩
  · have e0 : ((r6 : Int) == 0) = false := beq_no (by omega)
    have e1 : ((r6 : Int) == 1) = false := beq_no (by omega)
    have e2 : ((r6 : Int) == 2) = false := beq_no (by omega)
    have hb6 := D6.out
    go_wp2_with fail
    go_ret
    exact ⟨s, by omega, .inl (HCS.out.mono (by omega)), rfl, hb6⟩
end Go.Proofs.YtkhcfhhejmkikaaGreatDoor

namespace Go.Proofs.YtkhcfhhejmkikaaGreatDoor
open Go.RowKit
set_option maxRecDepth 100000

theorem readF_bulkR (s : ByteArray) : bulkE (readF s).1 ≤ 3600 := by
  have hlen := cutRes_len s
  cases hcr : cutRes s with
  | mk ws ok =>
  rw [hcr] at hlen
  have hlen' : ws.length ≤ 600 := hlen
  have hn : bulkE E.none ≤ 3600 := by decide
  cases ok
  · rw [readF_no hcr]; exact hn
  · rw [readF_ok hcr]
    rcases readW_cases ws with ⟨_, h2⟩ | ⟨e, r, h1, h2⟩
    · rw [h2]; exact hn
    · rw [h2]
      have := ((rd_bulk nmB 6100).L 1 ws e r (words_four hcr) h1).2
      split
      · show bulkE e ≤ 3600
        omega
      · exact hn
set_option maxHeartbeats 8000000 in
theorem fnRound_walk (Ac : Option Addr) (l : List UInt8) (cap : Nat) (w : World) (h : Bytes w w.heap.size Ac l) (hn : l.length ≤ cap) (hcap : cap ≤ 9223372036854775807) (T : Tabs w) (N : NTabs w) (G : Sgn w) :
    Calls Tryz.prog 6 #[.slice Ac l.length cap] w fun ee w' => ee = .returned (.bool true) ∧ Below w.heap.size w w' := by
  by_cases hbig : 1048576 < l.length
  · have hbig' : (1048576 : Int) < l.length := by omega
    clear h T N G
    go_enter Tryz.func6, Tryz.ntmps6
    go_wp2_with fail
    go_ret
    exact ⟨rfl, Below.refl _ _⟩
  have hbig' : ¬ (1048576 : Int) < l.length := by omega
  have DR := Lib.hid (drawReadExpr_any Ac l cap w h hn hcap)
  have TNG := Lib.hid (show ∀ W, Below w.heap.size w W → Tabs W ∧ NTabs W ∧ Sgn W from fun W h => ⟨T.below h, N.below h, G.below h⟩)
  clear h T N G hbig
  go_enter Tryz.func6, Tryz.ntmps6
  go_wp2_with fail
  refine Calls.mono DR.out ?_
  rintro ee w1 ⟨s, hs, hfew, rfl, hb1⟩
  have HFW := Lib.hid hfew
  clear hfew
  have IM := implReadExpr_any s w1 (by omega) (TNG.out w1 hb1).1 (TNG.out w1 hb1).2.1 (TNG.out w1 hb1).2.2
  have SP := fun W => specReadExpr_any s W (by omega)
  have hbk := readF_bulkR s
  have HB1 := Lib.hid hb1
  have hs1 := hb1.size
  clear hb1 DR
  generalize hp : readF s = p at *
  obtain ⟨e, ok⟩ := p
  dsimp only at hbk
  have SS := fun A c A' c' W h1 h2 => specSameExpr_any e e A c A' c' W h1 h2 (by omega) (by omega)
  unfold exV at SS
  rw [eqB_yes] at SS
  replace SS := fun A c A' c' W h1 h2 => Lib.hid (SS A c A' c' W h1 h2)
  replace IM := Lib.hid IM
  replace SP := fun W => Lib.hid (SP W)
  cases ok
  · clear hp HFW TNG
    go_wp2_with fail
    (with_reducible refine Calls.mono IM.out ?_)
    rintro ee w2 ⟨A2, c2, rfl, hp2, hb12⟩
    unfold exV
    have hs2 := hb12.size
    have hal := (Below.refl w2.heap.size w2).alloc (Nat.le_refl _) (.cells #[.int .i64 e.op, .int .i64 e.n, .string e.name, .slice A2 e.kids.length c2] 24)
    have X3 := Lib.hid (Bx4.new w2 (.int .i64 e.op) (.int .i64 e.n) (.string e.name) (.slice A2 e.kids.length c2) 24)
    have hz3 : (w2.alloc (.cells #[.int .i64 e.op, .int .i64 e.n, .string e.name, .slice A2 e.kids.length c2] 24)).heap.size = w2.heap.size + 1 := World.size_alloc _ _
    have hb13 := hb12.trans (hal.mono hs2)
    have HP3 := Lib.hid (PdS.later hp2.pd hal (Nat.zero_le _) hal.size)
    clear hp2 hal hb12 IM
    go_wp2_with fail
    generalize w2.alloc (.cells #[.int .i64 e.op, .int .i64 e.n, .string e.name, .slice A2 e.kids.length c2] 24) = w3 at *
    (with_reducible refine Calls.mono (SP w3).out ?_)
    rintro ee w4 ⟨A4, c4, rfl, hp4, hb34⟩
    unfold exV
    have hs4 := hb34.size
    have hal := (Below.refl w4.heap.size w4).alloc (Nat.le_refl _) (.cells #[.int .i64 e.op, .int .i64 e.n, .string e.name, .slice A4 e.kids.length c4] 24)
    have Y5 := Lib.hid (Bx4.new w4 (.int .i64 e.op) (.int .i64 e.n) (.string e.name) (.slice A4 e.kids.length c4) 24)
    have hz5 : (w4.alloc (.cells #[.int .i64 e.op, .int .i64 e.n, .string e.name, .slice A4 e.kids.length c4] 24)).heap.size = w4.heap.size + 1 := World.size_alloc _ _
    have hb35 := hb34.trans (hal.mono hs4)
    have hb15 := hb13.trans (hb35.mono hb13.size)
    have X5 := Lib.hid (X3.out.below hb35 (by omega))
    have HP5 := Lib.hid (PdS.later HP3.out hb35 (Nat.zero_le _) hb35.size)
    have HQ5 := Lib.hid (PdS.later hp4 hal (Nat.zero_le _) hal.size)
    have hs5 := hb35.size
    clear hp4 hal hb34 hb35 hb13 X3 HP3 SP
    go_upto_region 6 with (fail)
    generalize w4.alloc (.cells #[.int .i64 e.op, .int .i64 e.n, .string e.name, .slice A4 e.kids.length c4] 24) = w5 at *
    have SS5 := Lib.hid (SS A2 c2 A4 c4 w5 HP5.out.between_rd HQ5.out.between_rd).out
    obtain ⟨x0, x1, x2, x3⟩ := X5.out
    obtain ⟨y0, y1, y2, y3⟩ := Y5.out
    go_wp2_with fail
    (with_reducible refine Calls.mono SS5.out ?_)
    rintro ee w6 ⟨rfl, hb56⟩
    have hs6 := hb56.size
    have X6 := Lib.hid (X5.out.below hb56 (by omega))
    have Y6 := Lib.hid (Y5.out.below hb56 (by omega))
    have hb16 := hb15.trans (hb56.mono hb15.size)
    have HP6 := Lib.hid (PdS.later HP5.out hb56 (Nat.zero_le _) hb56.size)
    have HQ6 := Lib.hid (PdS.later HQ5.out hb56 (Nat.zero_le _) hb56.size)
    clear x0 x1 x2 x3 y0 y1 y2 y3 SS5 X5 Y5 HP5 HQ5 hb56 hb15
    obtain ⟨x0, x1, x2, x3⟩ := X6.out
    obtain ⟨y0, y1, y2, y3⟩ := Y6.out
    have SS6 := Lib.hid (SS A2 c2 A4 c4 w6 HP6.out.between_rd HQ6.out.between_rd).out
    clear HP6 HQ6 SS
    go_wp2_with fail
    (with_reducible refine Calls.mono SS6.out ?_)
    rintro ee w7 ⟨rfl, hb67⟩
    have hb7 := HB1.out.trans ((hb16.trans (hb67.mono hb16.size)).mono HB1.out.size)
    clear x0 x1 x2 x3 y0 y1 y2 y3 SS6 hb67 hb16 X6 Y6 HB1
    go_wp2_with fail
    go_ret
    exact ⟨rfl, hb7⟩
  by_cases hlen : 3000 < s.size + 6
  · have hlen' : (3000 : Int) < (s.size : Int) + 6 := by omega
    clear hp HFW TNG hlen
    go_wp2_with fail
    (with_reducible refine Calls.mono IM.out ?_)
    rintro ee w2 ⟨A2, c2, rfl, hp2, hb12⟩
    unfold exV
    have hs2 := hb12.size
    have hal := (Below.refl w2.heap.size w2).alloc (Nat.le_refl _) (.cells #[.int .i64 e.op, .int .i64 e.n, .string e.name, .slice A2 e.kids.length c2] 24)
    have X3 := Lib.hid (Bx4.new w2 (.int .i64 e.op) (.int .i64 e.n) (.string e.name) (.slice A2 e.kids.length c2) 24)
    have hz3 : (w2.alloc (.cells #[.int .i64 e.op, .int .i64 e.n, .string e.name, .slice A2 e.kids.length c2] 24)).heap.size = w2.heap.size + 1 := World.size_alloc _ _
    have hb13 := hb12.trans (hal.mono hs2)
    have HP3 := Lib.hid (PdS.later hp2.pd hal (Nat.zero_le _) hal.size)
    clear hp2 hal hb12 IM
    go_wp2_with fail
    generalize w2.alloc (.cells #[.int .i64 e.op, .int .i64 e.n, .string e.name, .slice A2 e.kids.length c2] 24) = w3 at *
    (with_reducible refine Calls.mono (SP w3).out ?_)
    rintro ee w4 ⟨A4, c4, rfl, hp4, hb34⟩
    unfold exV
    have hs4 := hb34.size
    have hal := (Below.refl w4.heap.size w4).alloc (Nat.le_refl _) (.cells #[.int .i64 e.op, .int .i64 e.n, .string e.name, .slice A4 e.kids.length c4] 24)
    have Y5 := Lib.hid (Bx4.new w4 (.int .i64 e.op) (.int .i64 e.n) (.string e.name) (.slice A4 e.kids.length c4) 24)
    have hz5 : (w4.alloc (.cells #[.int .i64 e.op, .int .i64 e.n, .string e.name, .slice A4 e.kids.length c4] 24)).heap.size = w4.heap.size + 1 := World.size_alloc _ _
    have hb35 := hb34.trans (hal.mono hs4)
    have hb15 := hb13.trans (hb35.mono hb13.size)
    have X5 := Lib.hid (X3.out.below hb35 (by omega))
    have HP5 := Lib.hid (PdS.later HP3.out hb35 (Nat.zero_le _) hb35.size)
    have HQ5 := Lib.hid (PdS.later hp4 hal (Nat.zero_le _) hal.size)
    have hs5 := hb35.size
    clear hp4 hal hb34 hb35 hb13 X3 HP3 SP
    go_upto_region 6 with (fail)
    generalize w4.alloc (.cells #[.int .i64 e.op, .int .i64 e.n, .string e.name, .slice A4 e.kids.length c4] 24) = w5 at *
    have SS5 := Lib.hid (SS A2 c2 A4 c4 w5 HP5.out.between_rd HQ5.out.between_rd).out
    obtain ⟨x0, x1, x2, x3⟩ := X5.out
    obtain ⟨y0, y1, y2, y3⟩ := Y5.out
    go_wp2_with fail
    (with_reducible refine Calls.mono SS5.out ?_)
    rintro ee w6 ⟨rfl, hb56⟩
    have hs6 := hb56.size
    have X6 := Lib.hid (X5.out.below hb56 (by omega))
    have Y6 := Lib.hid (Y5.out.below hb56 (by omega))
    have hb16 := hb15.trans (hb56.mono hb15.size)
    have HP6 := Lib.hid (PdS.later HP5.out hb56 (Nat.zero_le _) hb56.size)
    have HQ6 := Lib.hid (PdS.later HQ5.out hb56 (Nat.zero_le _) hb56.size)
    clear x0 x1 x2 x3 y0 y1 y2 y3 SS5 X5 Y5 HP5 HQ5 hb56 hb15
    obtain ⟨x0, x1, x2, x3⟩ := X6.out
    obtain ⟨y0, y1, y2, y3⟩ := Y6.out
    have SS6 := Lib.hid (SS A2 c2 A4 c4 w6 HP6.out.between_rd HQ6.out.between_rd).out
    clear HP6 HQ6 SS
    go_wp2_with fail
    (with_reducible refine Calls.mono SS6.out ?_)
    rintro ee w7 ⟨rfl, hb67⟩
    have hb7 := HB1.out.trans ((hb16.trans (hb67.mono hb16.size)).mono HB1.out.size)
    clear x0 x1 x2 x3 y0 y1 y2 y3 SS6 hb67 hb16 X6 Y6 HB1
    go_wp2_with fail
    go_ret
    exact ⟨rfl, hb7⟩
  have hlen' : ¬ (3000 : Int) < (s.size : Int) + 6 := by omega
  obtain ⟨hv, ws, hcs, _, _⟩ := readF_yes hp
  have hrr := round_read hp hcs (few_read HFW.out hp hcs) (by omega)
  obtain ⟨x3, hx3⟩ : ∃ x, readF (⟨#[40]⟩ ++ s) = (x, false) := ⟨_, Prod.ext rfl hrr.2.2.1⟩
  obtain ⟨x4, hx4⟩ : ∃ x, readF (s ++ ⟨#[41]⟩) = (x, false) := ⟨_, Prod.ext rfl hrr.2.2.2⟩
  have HQ := Lib.hid (show readF (⟨#[40]⟩ ++ s ++ ⟨#[41]⟩) = (e, true) ∧ readF (⟨#[40, 40]⟩ ++ s ++ ⟨#[41, 41]⟩) = (e, true) ∧ readF (⟨#[40]⟩ ++ s) = (x3, false) ∧ readF (s ++ ⟨#[41]⟩) = (x4, false) from ⟨hrr.1, hrr.2.1, hx3, hx4⟩)
  clear hp HFW hv hcs hrr hx3 hx4
  go_wp2_with fail
  (with_reducible refine Calls.mono IM.out ?_)
  rintro ee w2 ⟨A2, c2, rfl, hp2, hb12⟩
  unfold exV
  have hs2 := hb12.size
  have hal := (Below.refl w2.heap.size w2).alloc (Nat.le_refl _) (.cells #[.int .i64 e.op, .int .i64 e.n, .string e.name, .slice A2 e.kids.length c2] 24)
  have X3 := Lib.hid (Bx4.new w2 (.int .i64 e.op) (.int .i64 e.n) (.string e.name) (.slice A2 e.kids.length c2) 24)
  have hz3 : (w2.alloc (.cells #[.int .i64 e.op, .int .i64 e.n, .string e.name, .slice A2 e.kids.length c2] 24)).heap.size = w2.heap.size + 1 := World.size_alloc _ _
  have hb13 := hb12.trans (hal.mono hs2)
  have HP3 := Lib.hid (PdS.later hp2.pd hal (Nat.zero_le _) hal.size)
  clear hp2 hal hb12 IM
  go_wp2_with fail
  generalize w2.alloc (.cells #[.int .i64 e.op, .int .i64 e.n, .string e.name, .slice A2 e.kids.length c2] 24) = w3 at *
  (with_reducible refine Calls.mono (SP w3).out ?_)
  rintro ee w4 ⟨A4, c4, rfl, hp4, hb34⟩
  unfold exV
  have hs4 := hb34.size
  have hal := (Below.refl w4.heap.size w4).alloc (Nat.le_refl _) (.cells #[.int .i64 e.op, .int .i64 e.n, .string e.name, .slice A4 e.kids.length c4] 24)
  have Y5 := Lib.hid (Bx4.new w4 (.int .i64 e.op) (.int .i64 e.n) (.string e.name) (.slice A4 e.kids.length c4) 24)
  have hz5 : (w4.alloc (.cells #[.int .i64 e.op, .int .i64 e.n, .string e.name, .slice A4 e.kids.length c4] 24)).heap.size = w4.heap.size + 1 := World.size_alloc _ _
  have hb35 := hb34.trans (hal.mono hs4)
  have hb15 := hb13.trans (hb35.mono hb13.size)
  have X5 := Lib.hid (X3.out.below hb35 (by omega))
  have HP5 := Lib.hid (PdS.later HP3.out hb35 (Nat.zero_le _) hb35.size)
  have HQ5 := Lib.hid (PdS.later hp4 hal (Nat.zero_le _) hal.size)
  have hs5 := hb35.size
  clear hp4 hal hb34 hb35 hb13 X3 HP3 SP
  go_upto_region 6 with (fail)
  generalize w4.alloc (.cells #[.int .i64 e.op, .int .i64 e.n, .string e.name, .slice A4 e.kids.length c4] 24) = w5 at *
  have SS5 := Lib.hid (SS A2 c2 A4 c4 w5 HP5.out.between_rd HQ5.out.between_rd).out
  obtain ⟨x0, x1, x2, x3⟩ := X5.out
  obtain ⟨y0, y1, y2, y3⟩ := Y5.out
  go_wp2_with fail
  (with_reducible refine Calls.mono SS5.out ?_)
  rintro ee w6 ⟨rfl, hb56⟩
  have hs6 := hb56.size
  have X6 := Lib.hid (X5.out.below hb56 (by omega))
  have Y6 := Lib.hid (Y5.out.below hb56 (by omega))
  have hb16 := hb15.trans (hb56.mono hb15.size)
  have HP6 := Lib.hid (PdS.later HP5.out hb56 (Nat.zero_le _) hb56.size)
  have HQ6 := Lib.hid (PdS.later HQ5.out hb56 (Nat.zero_le _) hb56.size)
  clear x0 x1 x2 x3 y0 y1 y2 y3 SS5 X5 Y5 HP5 HQ5 hb56 hb15
  obtain ⟨x0, x1, x2, x3⟩ := X6.out
  obtain ⟨y0, y1, y2, y3⟩ := Y6.out
  clear HQ6 SS y0 y1 y2 y3 Y6 x0 x1 x2 x3
  have hbw6 := HB1.out.trans (hb16.mono HB1.out.size)
  have hb66 := Below.refl w6.heap.size w6
  have R1 := fun W (h : Below w.heap.size w W) => implReadExpr_any (⟨#[40]⟩ ++ s ++ ⟨#[41]⟩) W (by rw [ByteArray.size_append, ByteArray.size_append]; show 1 + s.size + 1 ≤ _; omega) (TNG.out W h).1 (TNG.out W h).2.1 (TNG.out W h).2.2
  have R2 := fun W (h : Below w.heap.size w W) => implReadExpr_any (⟨#[40, 40]⟩ ++ s ++ ⟨#[41, 41]⟩) W (by rw [ByteArray.size_append, ByteArray.size_append]; show 2 + s.size + 2 ≤ _; omega) (TNG.out W h).1 (TNG.out W h).2.1 (TNG.out W h).2.2
  have R3 := fun W (h : Below w.heap.size w W) => implReadExpr_any (⟨#[40]⟩ ++ s) W (by rw [ByteArray.size_append]; show 1 + s.size ≤ _; omega) (TNG.out W h).1 (TNG.out W h).2.1 (TNG.out W h).2.2
  have R4 := fun W (h : Below w.heap.size w W) => implReadExpr_any (s ++ ⟨#[41]⟩) W (by rw [ByteArray.size_append]; show s.size + 1 ≤ _; omega) (TNG.out W h).1 (TNG.out W h).2.1 (TNG.out W h).2.2
  rw [HQ.out.1] at R1
  rw [HQ.out.2.1] at R2
  rw [HQ.out.2.2.1] at R3
  rw [HQ.out.2.2.2] at R4
  have ES := fun A' c' W (h : Below w6.heap.size w6 W) hR => implSame_walk e e A' c' A2 c2 W hR (HP6.out.later h (Nat.zero_le _) h.size) (by omega) (by omega)
  unfold exV at ES
  rw [eqB_yes] at ES
  replace R1 := fun W h => Lib.hid (R1 W h)
  replace R2 := fun W h => Lib.hid (R2 W h)
  replace R3 := fun W h => Lib.hid (R3 W h)
  replace R4 := fun W h => Lib.hid (R4 W h)
  replace ES := fun A' c' W h hR => Lib.hid (ES A' c' W h hR)
  clear HQ TNG HP6
  go_wp2_with fail
  (with_reducible refine Calls.mono (R1 w6 hbw6).out ?_)
  rintro ee w7 ⟨A7, c7, rfl, hp7, hb67⟩
  unfold exV
  have hs7 := hb67.size
  have hal := (Below.refl w7.heap.size w7).alloc (Nat.le_refl _) (.cells #[.int .i64 e.op, .int .i64 e.n, .string e.name, .slice A7 e.kids.length c7] 24)
  have hz8 : (w7.alloc (.cells #[.int .i64 e.op, .int .i64 e.n, .string e.name, .slice A7 e.kids.length c7] 24)).heap.size = w7.heap.size + 1 := World.size_alloc _ _
  have hb68 := hb67.trans (hal.mono hs7)
  have hb68 := hb66.trans (hb68.mono hb66.size)
  have hbw8 := hbw6.trans (hb68.mono hbw6.size)
  have hs8 := hb68.size
  have Y8 := Lib.hid (Bx4.new w7 (.int .i64 e.op) (.int .i64 e.n) (.string e.name) (.slice A7 e.kids.length c7) 24)
  have PY8 := Lib.hid (PdS.later hp7.pd hal (Nat.zero_le _) hal.size)
  have X8 := Lib.hid (X6.out.below hb68 (by omega))
  clear hp7 hal hb67 hb68 hb66 hbw6 X6 R1
  go_wp2_with fail
  generalize w7.alloc (.cells #[.int .i64 e.op, .int .i64 e.n, .string e.name, .slice A7 e.kids.length c7] 24) = w8 at *
  (with_reducible refine Calls.mono (R2 w8 hbw8).out ?_)
  rintro ee w9 ⟨A9, c9, rfl, hp9, hb89⟩
  unfold exV
  have hs9 := hb89.size
  have hal := (Below.refl w9.heap.size w9).alloc (Nat.le_refl _) (.cells #[.int .i64 e.op, .int .i64 e.n, .string e.name, .slice A9 e.kids.length c9] 24)
  have hz10 : (w9.alloc (.cells #[.int .i64 e.op, .int .i64 e.n, .string e.name, .slice A9 e.kids.length c9] 24)).heap.size = w9.heap.size + 1 := World.size_alloc _ _
  have hb810 := hb89.trans (hal.mono hs9)
  have hb610 := hb68.trans (hb810.mono hb68.size)
  have hbw10 := hbw8.trans (hb810.mono hbw8.size)
  have hs10 := hb810.size
  have Z10 := Lib.hid (Bx4.new w9 (.int .i64 e.op) (.int .i64 e.n) (.string e.name) (.slice A9 e.kids.length c9) 24)
  have PZ10 := Lib.hid (PdS.later hp9.pd hal (Nat.zero_le _) hal.size)
  have X10 := Lib.hid (X8.out.below hb810 (by omega))
  have Y10 := Lib.hid (Y8.out.below hb810 (by omega))
  have PY10 := Lib.hid (PdS.later PY8.out hb810 (Nat.zero_le _) hb810.size)
  clear hp9 hal hb89 hb810 hb68 hbw8 X8 Y8 PY8 R2
  go_wp2_with fail
  generalize w9.alloc (.cells #[.int .i64 e.op, .int .i64 e.n, .string e.name, .slice A9 e.kids.length c9] 24) = w10 at *
  (with_reducible refine Calls.mono (R3 w10 hbw10).out ?_)
  rintro ee w11 ⟨A11, c11, rfl, hp11, hb1011⟩
  unfold exV
  have hs11 := hb1011.size
  have hal := (Below.refl w11.heap.size w11).alloc (Nat.le_refl _) (.cells #[.int .i64 x3.op, .int .i64 x3.n, .string x3.name, .slice A11 x3.kids.length c11] 24)
  have hz12 : (w11.alloc (.cells #[.int .i64 x3.op, .int .i64 x3.n, .string x3.name, .slice A11 x3.kids.length c11] 24)).heap.size = w11.heap.size + 1 := World.size_alloc _ _
  have hb1012 := hb1011.trans (hal.mono hs11)
  have hb612 := hb610.trans (hb1012.mono hb610.size)
  have hbw12 := hbw10.trans (hb1012.mono hbw10.size)
  have hs12 := hb1012.size
  have X12 := Lib.hid (X10.out.below hb1012 (by omega))
  have Y12 := Lib.hid (Y10.out.below hb1012 (by omega))
  have Z12 := Lib.hid (Z10.out.below hb1012 (by omega))
  have PY12 := Lib.hid (PdS.later PY10.out hb1012 (Nat.zero_le _) hb1012.size)
  have PZ12 := Lib.hid (PdS.later PZ10.out hb1012 (Nat.zero_le _) hb1012.size)
  clear hp11 hal hb1011 hb1012 hb610 hbw10 X10 Y10 Z10 PY10 PZ10 R3
  go_wp2_with fail
  generalize w11.alloc (.cells #[.int .i64 x3.op, .int .i64 x3.n, .string x3.name, .slice A11 x3.kids.length c11] 24) = w12 at *
  (with_reducible refine Calls.mono (R4 w12 hbw12).out ?_)
  rintro ee w13 ⟨A13, c13, rfl, hp13, hb1213⟩
  unfold exV
  have hs13 := hb1213.size
  have hal := (Below.refl w13.heap.size w13).alloc (Nat.le_refl _) (.cells #[.int .i64 x4.op, .int .i64 x4.n, .string x4.name, .slice A13 x4.kids.length c13] 24)
  have hz14 : (w13.alloc (.cells #[.int .i64 x4.op, .int .i64 x4.n, .string x4.name, .slice A13 x4.kids.length c13] 24)).heap.size = w13.heap.size + 1 := World.size_alloc _ _
  have hb1214 := hb1213.trans (hal.mono hs13)
  have hb614 := hb612.trans (hb1214.mono hb612.size)
  have hbw14 := hbw12.trans (hb1214.mono hbw12.size)
  have hs14 := hb1214.size
  have X14 := Lib.hid (X12.out.below hb1214 (by omega))
  have Y14 := Lib.hid (Y12.out.below hb1214 (by omega))
  have Z14 := Lib.hid (Z12.out.below hb1214 (by omega))
  have PY14 := Lib.hid (PdS.later PY12.out hb1214 (Nat.zero_le _) hb1214.size)
  have PZ14 := Lib.hid (PdS.later PZ12.out hb1214 (Nat.zero_le _) hb1214.size)
  clear hp13 hal hb1213 hb1214 hb612 hbw12 X12 Y12 Z12 PY12 PZ12 R4
  go_upto_region 12 with (fail)
  generalize w13.alloc (.cells #[.int .i64 x4.op, .int .i64 x4.n, .string x4.name, .slice A13 x4.kids.length c13] 24) = w14 at *
  have S14 := Lib.hid (ES A7 c7 w14 hb614 PY14.out).out
  obtain ⟨x0, x1, x2, x3'⟩ := X14.out
  obtain ⟨y0, y1, y2, y3⟩ := Y14.out
  go_wp2_with fail
  (with_reducible refine Calls.mono S14.out ?_)
  rintro ee w15 ⟨rfl, hb1415⟩
  have X15 := Lib.hid (X14.out.below hb1415 (by omega))
  have Z15 := Lib.hid (Z14.out.below hb1415 (by omega))
  have PZ15 := Lib.hid (PdS.later PZ14.out hb1415 (Nat.zero_le _) hb1415.size)
  have hb615 := hb614.trans (hb1415.mono hb614.size)
  have hbw15 := hbw14.trans (hb1415.mono hbw14.size)
  clear x0 x1 x2 x3' y0 y1 y2 y3 S14 X14 Y14 Z14 PZ14 PY14 hb1415 hb614 hbw14
  have S15 := Lib.hid (ES A9 c9 w15 hb615 PZ15.out).out
  obtain ⟨x0, x1, x2, x3'⟩ := X15.out
  obtain ⟨z0, z1, z2, z3⟩ := Z15.out
  go_wp2_with fail
  (with_reducible refine Calls.mono S15.out ?_)
  rintro ee w16 ⟨rfl, hb1516⟩
  have hb16' := hbw15.trans (hb1516.mono hbw15.size)
  clear x0 x1 x2 x3' z0 z1 z2 z3 S15 X15 Z15 PZ15 ES hb1516 hb615 hbw15 HB1
  go_wp2_with fail
  go_ret
  exact ⟨rfl, hb16'⟩
end Go.Proofs.YtkhcfhhejmkikaaGreatDoor

namespace Go.Proofs.YtkhcfhhejmkikaaGreatDoor
open Go.ChangeShapes Go.WideShapes Go.ChangeAt Go.RowKit Go.WideMaps
open Go.ChangeMaps (open_string)
set_option maxRecDepth 100000

namespace ExRound
theorem plain : (Rows.fnRoundRow.laid.all fun x => x.2.handleName?.isNone) = true := by kernel_rfl
/-- The door's own heap meets the condition: three closed facts. -/
theorem door_met (os : Os) (args : Array Value) : laidMetH Tryz.prog Rows.fnRoundRow.laid ((World.doorLaid Tryz.prog 400 os).forCall (fun _ _ => 0) ⟨#[], args, []⟩).memory :=
  laidMetH_of_parts3 (fuel := 8) (laidMet_of_run' 8 (by kernel_rfl) (by kernel_rfl)) (by kernel_rfl) (by kernel_rfl)
theorem lifted (os : Os) (started : os.Started) (H : Type) (enc : TypeId × Value → H) :
    ReturnsInHanded {} Tryz.checked os 6 .any (fun w args => (Rows.fnRoundSpec.pre enc Tryz.prog Tryz.f6 [] false w args ∧ laidMetH Tryz.prog Rows.fnRoundRow.laid w) ∧ sizedMet enc Tryz.prog Tryz.f6 (OpenSpec.ofChange Rows.fnRoundSpec) false w args)
      (Rows.fnRoundSpec.post enc Tryz.prog Tryz.f6 false true false false) := by
  refine returnsInHanded_of_change_and (C := Tryz.checked) (X := fun w _ => laidMetH Tryz.prog Rows.fnRoundRow.laid w) (fun _ _ _ hh h => h.of_heap hh) ownNone started (by kernel_rfl) Tryz.func6
    (ChangeSpec.witness_shaped (enc := enc) (C := Tryz.checked) (os := os) (X := fun w _ => laidMetH Tryz.prog Rows.fnRoundRow.laid w) false (World.doorLaid Tryz.prog 400 os) #[.slice none 0 0] 8 rfl (World.shaped_of_RefB (by kernel_rfl) (by kernel_rfl)) (by kernel_rfl) (by kernel_rfl) (by kernel_rfl) (door_met os _)) ?_
  intro W base args ds gs before hval0 hW _ hsz hL0 _
  have hval : ∀ (j : Nat) t v, Tryz.f6.params[j]? = some t → args[j]? = some v → Value.okWide Tryz.prog W .any base t v := hval0
  have hL : laidMet Tryz.prog Rows.fnRoundRow.laid W := by rw [← MakeChecks.laidMetH_plain _ _ _ plain]; exact hL0
  have hWhole := hW
  obtain ⟨p, q, hA0, hV, rfl, hfz, hnd⟩ := hW
  have hA : DataW.TrodAll enc Tryz.prog W 0 (fun _ => true) true Tryz.f6.params.toList args.toList ds p := hA0
  rw [Tryz.params6] at hA hval
  clear hA0 hval0 hL0
  obtain ⟨v0, d0, rfl, rfl, h0⟩ := trodAll_one hA
  obtain ⟨A, l, cap, rfl, hB, hn, hcap⟩ := open_byteS Tryz.underlying30 Tryz.underlying5 (by kernel_rfl) (hval 0 30 v0 rfl rfl) h0
  have N : NTabs W := ntabs_of_laid hL (by simp [Rows.fnRoundRow]) (by simp [Rows.fnRoundRow]) (by simp [Rows.fnRoundRow]) (by simp [Rows.fnRoundRow])
  have T : Tabs W := tabs_of_laid hL (by simp [Rows.fnRoundRow]) (by simp [Rows.fnRoundRow])
  have G : Sgn W := sgn_of_laid hL (by simp [Rows.fnRoundRow])
  obtain ⟨g1, g2, g3, rfl⟩ : ∃ g1 g2 g3, gs = [g1, g2, g3] := vars_three hV
  refine (fnRound_walk A l cap W hB hn hcap T N G).mono fun e W' ⟨he, hb⟩ => ⟨_, he, ?_⟩
  exact law_post laidOut (by kernel_rfl) (by kernel_rfl) (by kernel_rfl) Tryz.underlying4 rfl hWhole hb
theorem row_holds : Rows.FnRoundSaid :=
  OpenClaim.holds_of_wide 6 Tryz.f6 rfl rfl rfl rfl rfl rfl rfl ⟨rfl, rfl, rfl, rfl, rfl⟩ rfl rfl rfl rfl rfl (by kernel_rfl) Tryz.func6 (by kernel_rfl)
    (of_decide_eq_true (by kernel_rfl)) (by unfold Func.isWrapper; first | (rw [if_pos (by decide +kernel)]; kernel_rfl) | (rw [if_neg (by decide +kernel)]; exact ⟨rfl, rfl⟩))
    (fun os started H enc _ => lifted os started H enc)
theorem holds : Rows.FnRoundCardSaid :=
  Claim7.holds_tied_plain_at .later [] Rows.fnRoundCard.laidKinds true Rows.fnRoundCard.stood.harness true
    row_holds (fun _ h => by cases h) (by kernel_rfl) (fun _ h => by cases h) fnRound_row_tie rfl ⟨rfl, rfl⟩ (by kernel_rfl) rfl
    (fun f fn hf hfn => by
      obtain rfl : f = 6 := Option.some.inj ((show Tryz.prog.funcNamed Rows.fnRoundRow.func = some 6 by kernel_rfl).symm.trans hf) |>.symm
      obtain rfl : fn = Tryz.f6 := (Option.some.inj (Tryz.func6.symm.trans hfn)).symm
      exact ⟨by kernel_rfl, fun j t ht => by
        have hall : (Tryz.f6.params.toList.all fun u => !Tryz.prog.wantsStandIn u) = true := by kernel_rfl
        exact (show Tryz.prog.wantsStandIn t = false by simpa using List.all_eq_true.1 hall t (by simpa using Array.mem_of_getElem? ht))⟩)
    (by kernel_rfl)
#print axioms holds
end ExRound
end Go.Proofs.YtkhcfhhejmkikaaGreatDoor
