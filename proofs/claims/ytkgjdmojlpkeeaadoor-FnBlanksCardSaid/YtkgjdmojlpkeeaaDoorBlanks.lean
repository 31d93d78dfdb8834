/-
  The law that blanks around a text change nothing, nor line feeds for spaces: its walk.
-/
import Derived.Test.YtkgjdmojlpkeeaaDoorCutLaw
import Derived.Test.YtkgjdmojlpkeeaaDoorDraw5
import Derived.Test.YtkgjdmojlpkeeaaDoorWW
import Derived.Test.YtkgjdmojlpkeeaaDoorCutL2
import Derived.Laws.IdiomStrings
import Derived.Lib.BufferMore
namespace Go.Proofs.YtkgjdmojlpkeeaaDoor
open Go.RowKit
set_option maxRecDepth 100000

theorem cutRes_same {s t : ByteArray} (hs : s.size ≤ 3000) (ht : t.size ≤ 3000) (h : cutF s 0 = cutF t 0) : cutRes s = cutRes t := by
  unfold cutRes
  rw [if_neg (by omega), if_neg (by omega), h]
theorem blanks_around {s : ByteArray} (hs : s.size + 4 ≤ 3000) : cutRes (⟨#[32, 10]⟩ ++ s ++ ⟨#[10, 32]⟩) = cutRes s := by
  have e1 : (⟨#[32, 10]⟩ : ByteArray).size = 2 := rfl
  have e2 : (⟨#[10, 32]⟩ : ByteArray).size = 2 := rfl
  refine cutRes_same (by rw [ByteArray.size_append, ByteArray.size_append]; omega) (by omega) ?_
  rw [cut_list, cut_list, ByteArray.data_append, ByteArray.data_append, Array.toList_append, Array.toList_append]
  show cutL (32 :: 10 :: s.data.toList ++ 10 :: [32]) = _
  rw [List.cons_append, List.cons_append, cutL_blank (by decide), cutL_blank (by decide), cutL_two _ _ (Nat.le_refl _) 10 _ (by decide), cutL_blank (by decide), cutL_nil]
  cases cutL s.data.toList <;> simp [both]
theorem feeds_for {s : ByteArray} (hs : s.size ≤ 3000) : cutRes ⟨(s.data.toList.map feed).toArray⟩ = cutRes s := by
  have e1 : (⟨(s.data.toList.map feed).toArray⟩ : ByteArray).size = s.size := by
    show (s.data.toList.map feed).toArray.size = _
    rw [List.size_toArray, List.length_map, len_list]
  refine cutRes_same (by omega) hs ?_
  rw [cut_list, cut_list]
  exact cutL_feed _ _ (Nat.le_refl _)

/-- A row of bytes of the call's own, its end marked. -/
def BRow (w : World) (g : Nat) (l : List UInt8) : Prop := ∃ C t m, w.heap[g]? = some (.cells C t (m, m + 1)) ∧ l.length ≤ m ∧ ∀ k, (h : k < l.length) → C[k]? = some (.int .u8 l[k].toNat)
theorem BRow.cell {w : World} {g : Nat} {l : List UInt8} (h : BRow w g l) {k : Nat} (hk : k < l.length) : w.cell? ⟨g, k, none⟩ = some (.int .u8 l[k].toNat) := by
  obtain ⟨C, t, m, h1, _, h3⟩ := h
  unfold World.cell?
  rw [h1]
  exact h3 k hk
theorem BRow.free {w : World} {g : Nat} {l : List UInt8} (h : BRow w g l) {k : Nat} (hk : k < l.length) : w.frozen? ⟨g, k, none⟩ = false := by
  obtain ⟨C, t, m, h1, h2, _⟩ := h
  unfold World.frozen?
  rw [h1]
  show (decide (m ≤ k) && decide (k < m + 1)) = false
  rw [decide_eq_false (by omega)]
  rfl
theorem BRow.set {w : World} {g : Nat} {l : List UInt8} (h : BRow w g l) {k : Nat} (hk : k < l.length) (x : UInt8) : BRow (w.setCell ⟨g, k, none⟩ (.int .u8 x.toNat)) g (l.set k x) := by
  obtain ⟨C, t, m, h1, h2, h3⟩ := h
  have hC : k < C.size := by
    have := h3 k hk
    exact (Array.getElem?_eq_some_iff.1 this).1
  refine ⟨C.setIfInBounds k (.int .u8 x.toNat), t, m, Lib.heap_setCell_same h1 _, by simpa using h2, fun j hj => ?_⟩
  rw [List.length_set] at hj
  rw [Array.getElem?_setIfInBounds, List.getElem_set]
  by_cases e : k = j
  · subst e
    rw [if_pos rfl, if_pos hC, if_pos rfl]
  · rw [if_neg e, if_neg e]
    exact h3 j hj
theorem BRow.below {w w' : World} {g B : Nat} {l : List UInt8} (h : BRow w g l) (hb : Below B w w') (hg : g < B) : BRow w' g l := by
  obtain ⟨C, t, m, h1, h2, h3⟩ := h
  exact ⟨C, t, m, by rw [hb.block g hg]; exact h1, h2, h3⟩
theorem to_bytes (s : ByteArray) (W : World) : ∃ c W', (convert 9 22 (.string s)).run Tryd.prog W = .ok (.slice (some ⟨W.heap.size, 0, none⟩) s.size c) W' ∧ BRow W' W.heap.size s.data.toList ∧ Below W.heap.size W W' ∧ W.heap.size < W'.heap.size := by
  refine ⟨_, _, run_bytes_of_string W 9 22 5 s Tryd.underlying9 Tryd.underlying22 Tryd.underlying5, ?_, (Below.refl _ _).drew.alloc (Nat.le_refl _) _, ?_⟩
  · refine ⟨bytesRow s (grownCap W s.size 0 5), 5, (bytesRow s (grownCap W s.size 0 5)).size, ?_, ?_, fun k hk => ?_⟩
    · show (W.heap.push _)[W.heap.size]? = _
      simp
    · unfold bytesRow
      rw [Array.size_append, Array.size_map, len_list]
      show s.data.size ≤ _
      omega
    · rw [len_list] at hk
      exact bytesRow_at s _ k hk
  · show _ < (W.heap.push _).size
    simp
theorem back_string {w : World} {g c : Nat} {l : List UInt8} (h : BRow w g l) : (convert 22 9 (.slice (some ⟨g, 0, none⟩) l.length c)).run Tryd.prog w = .ok (.string ⟨l.toArray⟩) w :=
  run_convert_bytes_back w 22 9 5 ⟨g, 0, none⟩ c l Tryd.underlying22 Tryd.underlying5 Tryd.underlying9 (fun j hj => by
    have hadd : (⟨g, 0, none⟩ : Addr).add j = ⟨g, j, none⟩ := by
      unfold Addr.add
      by_cases hj : j = 0
      · rw [if_pos hj, hj]
      · rw [if_neg hj, Nat.zero_add]
    rw [hadd]
    exact h.cell hj)

set_option maxHeartbeats 4000000 in
theorem fnBlanks_walk (A : Option Addr) (l : List UInt8) (cap : Nat) (w : World) (hB : Bytes w w.heap.size A l) (hn : l.length ≤ cap) (hcap : cap ≤ 9223372036854775807) (T : Tabs w) (N : NTabs w) :
    Calls Tryd.prog 5 #[.slice A l.length cap] w fun e w' => e = .returned (.bool true) ∧ Below w.heap.size w w' := by
  by_cases hl : 1048576 < l.length
  · clear hB T N
    go_enter Tryd.func5, Tryd.ntmps5
    go_wp2
    go_ret
    exact ⟨rfl, Below.refl _ _⟩
  have hl' : l.length ≤ 1048576 := by omega
  have DC := Lib.hid (drawCutWords_any A l cap w hB hn hcap)
  clear hl hB
  have SC := fun s hs W => Lib.hid (specCutWords_any s W hs)
  have IC := fun s hs W h h' => Lib.hid (implCutWords_any s W hs h h')
  go_enter Tryd.func5, Tryd.ntmps5
  go_wp2_with fail
  refine DC.out.mono ?_
  rintro e w1 ⟨s, hs, rfl, hb1⟩
  clear DC
  have T1 := T.below hb1
  have N1 := N.below hb1
  have SC1 := SC s (by omega)
  have IC1 := IC s (by omega)
  clear SC
  cases hc : cutRes s with
  | mk ws ok =>
  have hlen := cutRes_len s
  rw [hc] at hlen IC1 SC1
  have hlen' : ws.length ≤ 600 := hlen
  clear hlen
  have ebb : (ok == ok) = true := by simp
  have ebn : (ok != ok) = false := by simp
  go_wp2_with fail
  refine (IC1 w1 T1 N1).out.mono ?_
  rintro e w2 ⟨⟨v0, rfl, hO2⟩, hb2⟩
  obtain ⟨A0, cap0, rfl, hW2⟩ := words_own hO2
  clear hO2 IC1
  go_wp2_with fail
  refine (SC1 w2).out.mono ?_
  rintro e w3 ⟨⟨v1, rfl, hO3⟩, hb3⟩
  obtain ⟨A1, cap1, rfl, hW3⟩ := words_own hO3
  clear hO3 SC1
  have hW23 := (hW2.below hb3).more hb3.size
  have hb13 := hb2.trans (hb3.mono hb2.size)
  have WW := Lib.hid (wwWords_same A0 ws cap0 A1 cap1 w3 hW23 hW3 (by omega))
  go_wp2_with fail
  refine WW.out.mono ?_
  rintro e w4 ⟨rfl, hb4⟩
  have hW24 := (hW23.below hb4).more hb4.size
  have hW34 := (hW3.below hb4).more hb4.size
  have hb14 := hb13.trans (hb4.mono hb13.size)
  clear WW hW2 hW3 hW23 hb2 hb3 hb4 hb13
  by_cases h4 : 3000 < s.size + 4
  · have WW := Lib.hid (wwWords_same A0 ws cap0 A1 cap1 w4 hW24 hW34 (by omega))
    clear hW24 hW34 IC
    go_wp2_with fail
    refine WW.out.mono ?_
    rintro e w5 ⟨rfl, hb5⟩
    have hb15 := hb14.trans (hb5.mono hb14.size)
    have hb05 := hb1.trans (hb15.mono hb1.size)
    go_wp2
    go_ret
    exact ⟨rfl, hb05⟩
  · have h4' : s.size + 4 ≤ 3000 := by omega
    have hx := blanks_around h4'
    have hy := feeds_for (s := s) (by omega)
    rw [hc] at hx hy
    have ICx := IC (⟨#[32, 10]⟩ ++ s ++ ⟨#[10, 32]⟩) (by
      have e1 : (⟨#[32, 10]⟩ : ByteArray).size = 2 := rfl
      have e2 : (⟨#[10, 32]⟩ : ByteArray).size = 2 := rfl
      rw [ByteArray.size_append, ByteArray.size_append]; omega)
    have ICy := IC ⟨(s.data.toList.map feed).toArray⟩ (by
      show (s.data.toList.map feed).toArray.size ≤ _
      rw [List.size_toArray, List.length_map, len_list]; omega)
    rw [hx] at ICx
    rw [hy] at ICy
    clear hx hy IC hc hW34 h4
    go_wp2_with fail
    refine (ICx w4 (T1.below hb14) (N1.below hb14)).out.mono ?_
    rintro e w5 ⟨⟨v5, rfl, hO5⟩, hb5⟩
    obtain ⟨A5, cap5, rfl, hW5⟩ := words_own hO5
    have hW25 := (hW24.below hb5).more hb5.size
    have hb15 := hb14.trans (hb5.mono hb14.size)
    clear hO5 ICx hW24
    obtain ⟨cc, w6, hcv, hR6, hb6, hlt6⟩ := to_bytes s w5
    have hR6' := Lib.hid hR6
    have hb6' := Lib.hid hb6
    clear hR6 hb6
    go_wp2
    have hlz : s.data.toList.length = s.size := len_list s
    go_loopw [64] (fun i wr => ∃ (k : Nat) (lk : List UInt8), k ≤ s.size ∧ i = .int .i64 k ∧ lk.length = s.size ∧ (∀ j, (h : j < lk.length) → (h' : j < s.data.toList.length) → lk[j] = if j < k then feed s.data.toList[j] else s.data.toList[j]) ∧ BRow wr w5.heap.size lk ∧ Below w5.heap.size w5 wr) (fun i _ => s.size - (intOf i).toNat)
    case atStart => exact ⟨0, s.data.toList, Nat.zero_le _, rfl, hlz, fun j h h' => by rw [if_neg (by omega)], hR6'.out, hb6'.out⟩
    case round =>
      obtain ⟨k, lk, hk, rfl, hlk, hall, hR, hb⟩ := hrel
      clear hcv
      by_cases hlt : k < s.size
      · have hk1 : k < lk.length := by omega
        have hk2 : k < s.data.toList.length := by omega
        have hcell := hR.cell hk1
        have hfree := hR.free hk1
        have hkv := hall k hk1 hk2
        rw [if_neg (by omega)] at hkv
        have hset := hR.set hk1 10
        have HA := Lib.hid hall
        have HR := Lib.hid hR
        have HS := Lib.hid hset
        clear hall hR hset ICy
        generalize hbv : lk[k] = b at *
        by_cases h32 : b = 32
        · have e1 : ((b.toNat : Int) == 32) = true := by rw [h32]; rfl
          have H32 := Lib.hid h32
          have HV := Lib.hid hkv
          have hb' := Lib.hid (hb.setCell (p := ⟨w5.heap.size, k, none⟩) (Nat.le_refl _) (.int .u8 10))
          clear h32 hkv hb hlz
          go_wp2
          go_roundw
          case rel => exact ⟨k + 1, lk.set k 10, by omega, by go_num, by rw [List.length_set]; exact hlk, fun j h h' => by
            rw [List.getElem_set]
            by_cases e : k = j
            · subst e
              rw [if_pos rfl, if_pos (by omega), ← HV.out, H32.out]
              rfl
            · rw [if_neg e, HA.out j (by rw [List.length_set] at h; exact h) h']
              by_cases e2 : j < k
              · rw [if_pos e2, if_pos (by omega)]
              · rw [if_neg e2, if_neg (by omega)], HS.out, hb'.out⟩
          case measure => simp only [intOf]; omega
        · have e1 : ((b.toNat : Int) == 32) = false := by
            rw [beq_eq_false_iff_ne]
            intro e
            apply h32
            have e' : b.toNat = 32 := by omega
            exact UInt8.toNat_inj.1 e'
          have H32 := Lib.hid h32
          have HV := Lib.hid hkv
          have hb' := Lib.hid hb
          clear h32 hkv hb hlz
          go_wp2
          go_roundw
          case rel => exact ⟨k + 1, lk, by omega, by go_num, hlk, fun j h h' => by
            rw [HA.out j h h']
            by_cases e : k = j
            · subst e
              rw [if_neg (by omega), if_pos (by omega), ← HV.out]
              unfold feed
              rw [if_neg H32.out]
            · by_cases e2 : j < k
              · rw [if_pos e2, if_pos (by omega)]
              · rw [if_neg e2, if_neg (by omega)], HR.out, hb'.out⟩
          case measure => simp only [intOf]; omega
      · obtain rfl : k = s.size := by omega
        have hlf : lk = s.data.toList.map feed := by
          refine List.ext_getElem (by rw [List.length_map]; omega) fun j h h' => ?_
          rw [List.length_map] at h'
          rw [hall j h h', if_pos (by omega), List.getElem_map]
        have hbk := back_string (c := cc) hR
        rw [hlk, hlf] at hbk
        have hb1r := hb15.trans (hb.mono hb15.size)
        have hWr := (hW25.below hb).more hb.size
        have hW5r := (hW5.below hb).more hb.size
        have IY := ICy wr (T1.below hb1r) (N1.below hb1r)
        clear hall hR ICy hW25 hW5 hlf hlk hlz
        go_wp2_with fail
        refine IY.out.mono ?_
        rintro e w7 ⟨⟨v7, rfl, hO7⟩, hb7⟩
        obtain ⟨A7, cap7, rfl, hW7⟩ := words_own hO7
        have hWr7 := (hWr.below hb7).more hb7.size
        have hW57 := (hW5r.below hb7).more hb7.size
        have hb17 := hb1r.trans (hb7.mono hb1r.size)
        have WW := Lib.hid (wwWords_same A5 ws cap5 A0 cap0 w7 hW57 hWr7 (by omega))
        clear IY hO7 hWr hW5r hbk
        go_wp2_with fail
        refine WW.out.mono ?_
        rintro e w8 ⟨rfl, hb8⟩
        have hWr8 := (hWr7.below hb8).more hb8.size
        have hW78 := (hW7.below hb8).more hb8.size
        have hb18 := hb17.trans (hb8.mono hb17.size)
        have WW := Lib.hid (wwWords_same A7 ws cap7 A0 cap0 w8 hW78 hWr8 (by omega))
        clear hW57 hWr7 hW7
        go_wp2_with fail
        refine WW.out.mono ?_
        rintro e w9 ⟨rfl, hb9⟩
        have hb19 := hb18.trans (hb9.mono hb18.size)
        have hb09 := hb1.trans (hb19.mono hb1.size)
        clear WW
        go_wp2
        go_ret
        exact ⟨rfl, hb09⟩
end Go.Proofs.YtkgjdmojlpkeeaaDoor
