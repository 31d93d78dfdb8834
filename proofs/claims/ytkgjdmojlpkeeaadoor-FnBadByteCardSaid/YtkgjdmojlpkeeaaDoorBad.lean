/-
  The law that no word has a strange byte: its walk.
-/
import Derived.Test.YtkgjdmojlpkeeaaDoorCutLaw
import Derived.Test.YtkgjdmojlpkeeaaDoorDraw5
import Derived.Test.YtkgjdmojlpkeeaaDoorWW
import Derived.Test.YtkgjdmojlpkeeaaDoorCutL
namespace Go.Proofs.YtkgjdmojlpkeeaaDoor
open Go.RowKit
set_option maxRecDepth 100000

def strangeB : List ByteArray := [⟨#[63]⟩, ⟨#[65]⟩, ⟨#[9]⟩, ⟨#[95]⟩, ⟨#[0]⟩]
theorem strangeB_is : ∀ s ∈ strangeB, ∃ x : UInt8, s = ⟨#[x]⟩ ∧ cls x.toNat = 0 := by
  intro s hs
  simp only [strangeB, List.mem_cons, List.not_mem_nil, or_false] at hs
  rcases hs with rfl | rfl | rfl | rfl | rfl
  all_goals exact ⟨_, rfl, by decide⟩
theorem append_list (a b : ByteArray) : (a ++ b).data.toList = a.data.toList ++ b.data.toList := by simp
theorem cut_strange (s : ByteArray) (m : Nat) (x : UInt8) (h : cls x.toNat = 0) : cutRes (s.extract 0 m ++ ⟨#[x]⟩ ++ s.extract m s.size) = ([], false) := by
  apply cutRes_none
  rw [cut_list, append_list, append_list, List.append_assoc]
  exact cutL_strange _ _ (Nat.le_refl _) x _ h

set_option maxHeartbeats 4000000 in
theorem fnBadByte_walk (A : Option Addr) (l : List UInt8) (cap : Nat) (w : World) (hB : Bytes w w.heap.size A l) (hn : l.length ≤ cap) (hcap : cap ≤ 9223372036854775807) (T : Tabs w) (N : NTabs w) :
    Calls Tryd.prog 6 #[.slice A l.length cap] w fun e w' => e = .returned (.bool true) ∧ Below w.heap.size w w' := by
  by_cases hl : 1048576 < l.length
  · clear hB T N
    go_enter Tryd.func6, Tryd.ntmps6
    go_wp2
    go_ret
    exact ⟨rfl, Below.refl _ _⟩
  have hl' : l.length ≤ 1048576 := by omega
  have DC := Lib.hid (drawCutWords_any A l cap w hB hn hcap)
  clear hl hB
  have SC := fun s hs W => Lib.hid (specCutWords_any s W hs)
  have IC := fun s hs W h h' => Lib.hid (implCutWords_any s W hs h h')
  go_enter Tryd.func6, Tryd.ntmps6
  go_wp2_with fail
  refine DC.out.mono ?_
  rintro e w1 ⟨s, hs, rfl, hb1⟩
  clear DC
  have T1 := T.below hb1
  have N1 := N.below hb1
  have SC1 := SC s (by omega)
  have IC1 := IC s (by omega)
  clear SC
  have hlen := cutRes_len s
  generalize cutRes s = p at *
  obtain ⟨ws, ok⟩ := p
  have hlen' : ws.length ≤ 600 := hlen
  clear hlen
  go_wp2_with fail
  refine (IC1 w1 T1 N1).out.mono ?_
  rintro e w2 ⟨⟨v0, rfl, hO2⟩, hb2⟩
  obtain ⟨A0, cap0, rfl, hW2⟩ := words_own hO2
  clear hO2 IC1
  go_wp2_with fail
  refine (SC1 w2).out.mono ?_
  rintro e w3 ⟨⟨v1, rfl, hO3⟩, hb3⟩
  obtain ⟨A1, cap1, rfl, hW3⟩ := words_own hO3
  clear hO3 SC1
  have hW23 := (hW2.below hb3).more hb3.size
  have WW := Lib.hid (wwWords_same A0 ws cap0 A1 cap1 w3 hW23 hW3 (by omega))
  clear hW2 hW3 hW23
  go_wp2_with fail
  refine WW.out.mono ?_
  rintro e w4 ⟨rfl, hb4⟩
  clear WW
  have hb13 := hb2.trans (hb3.mono hb2.size)
  have hb14 := hb13.trans (hb4.mono hb13.size)
  have hb04 := hb1.trans (hb14.mono hb1.size)
  clear hb2 hb3 hb4 hb13 hb14 hb1 T1 N1
  have hm : s.size / 2 ≤ s.size := Nat.div_le_self _ _
  have em : (s.size : Int) / 2 = ((s.size / 2 : Nat) : Int) := rfl
  have CS := cut_strange s (s.size / 2)
  generalize s.size / 2 = m at *
  replace hb04 := Lib.hid hb04
  replace CS := Lib.hid CS
  have ebb : (ok == ok) = true := by simp
  have ebn : (ok != ok) = false := by simp
  go_wp2
  generalize hwL : w4.alloc (.cells #[.string ⟨#[63]⟩, .string ⟨#[65]⟩, .string ⟨#[9]⟩, .string ⟨#[95]⟩, .string ⟨#[0]⟩] 9 (0, 0)) = wL
  have hcL : ∀ k, (h : k < strangeB.length) → wL.cell? ⟨w4.heap.size, 0 + k, none⟩ = some (.string strangeB[k]) := by
    rw [← hwL]
    intro k hk
    exact lit_cell w4 (strangeB.map Value.string) 9 (0, 0) k _ (by simp [hk])
  have hltL : w4.heap.size < wL.heap.size := by rw [← hwL]; show _ < (w4.heap.push _).size; simp
  have hbL : Below w4.heap.size w4 wL := by rw [← hwL]; exact (Below.refl _ _).alloc (Nat.le_refl _) _
  have hb0L := Lib.hid (hb04.out.trans (hbL.mono hb04.out.size))
  replace hcL := Lib.hid hcL
  clear hwL hbL hb04
  go_loopw [39] (fun i wr => ∃ (k : Nat), k ≤ 5 ∧ i = .int .i64 k ∧ Below wL.heap.size wL wr) (fun i _ => 5 - (intOf i).toNat)
  case atStart => exact ⟨0, Nat.zero_le _, rfl, Below.refl _ _⟩
  case round =>
    obtain ⟨k, hk, rfl, hb⟩ := hrel
    have hb0r := Lib.hid (hb0L.out.trans (hb.mono hb0L.out.size))
    by_cases hlt : k < 5
    · have hlt' : k < strangeB.length := hlt
      have hc1 := (hb.cell (p := ⟨w4.heap.size, 0 + k, none⟩) hltL).trans (hcL.out k hlt')
      have hmem := List.getElem_mem hlt'
      generalize strangeB[k] = bb at *
      obtain ⟨x, hxe, hx⟩ := strangeB_is bb hmem
      rw [Nat.zero_add] at hc1
      have hcs := CS.out x hx
      have hts := T.below hb0r.out.drew
      have hns := N.below hb0r.out.drew
      rw [← hxe] at hcs
      have hz1 : bb.size = 1 := by rw [hxe]; rfl
      have hza : (s.extract 0 m).size = m := by rw [ByteArray.size_extract]; omega
      have hzc : (s.extract m s.size).size = s.size - m := by rw [ByteArray.size_extract]; omega
      obtain ⟨a, ha⟩ : ∃ a, s.extract 0 m = a := ⟨_, rfl⟩
      obtain ⟨c, hc⟩ : ∃ c, s.extract m s.size = c := ⟨_, rfl⟩
      rw [ha, hc] at hcs
      rw [ha] at hza
      rw [hc] at hzc
      have hsz : (a ++ bb ++ c).size ≤ 1048576 := by
        rw [ByteArray.size_append, ByteArray.size_append]
        omega
      have q1 : ¬ (9223372036854775807 < a.size + bb.size) := by omega
      have q2 : ¬ (9223372036854775807 < a.size + bb.size + c.size) := by omega
      have IC2 := IC _ hsz wr.drew hts hns
      rw [hcs] at IC2
      clear hcs hts hns hmem hlt' hxe hx hsz hz1 hza hzc
      go_wp2
      go_region_held3 (fun _ => True) (trivial)
        (first | (go_at_call 17; refine IC2.out.mono ?_; rintro e w' ⟨⟨v6, rfl, hO6⟩, hb6⟩; clear hO6))
      have hb7 := Lib.hid (hb.drew.trans (hb6.mono (show wL.heap.size ≤ wr.drew.heap.size from hb.size)))
      clear hb hb6
      go_wp2
      go_roundw
      case rel => exact ⟨k + 1, by omega, by go_num, hb7.out⟩
      case measure => simp only [intOf]; omega
    · obtain rfl : k = 5 := by omega
      go_wp2
      go_ret
      exact ⟨rfl, hb0r.out⟩
end Go.Proofs.YtkgjdmojlpkeeaaDoor
