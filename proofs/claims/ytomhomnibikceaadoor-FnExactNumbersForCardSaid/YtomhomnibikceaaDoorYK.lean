/-
  Marks in a whole unit, whatever its numbers are.
-/
import Derived.Test.YtomhomnibikceaaDoorNZ
namespace Go.Proofs.YtomhomnibikceaaDoor
open Go.RowKit
set_option maxRecDepth 100000

/-- How many blocks the first codes have. -/
def nbTo (cs : List Cd) (j : Nat) : Nat := bulkR (fun c : Cd => c.blocks.length) (cs.take j)
theorem nbTo_succ {cs : List Cd} {j : Nat} (h : j < cs.length) : nbTo cs (j + 1) = nbTo cs j + (1 + cs[j].blocks.length) := bulkR_take h
theorem nb_le : ∀ (cs : List Cd), bulkR (fun c : Cd => c.blocks.length) cs ≤ bulkR bulkCd cs
  | [] => Nat.le_refl _
  | c :: cs => by
    have h1 := nb_le cs
    have h2 := length_le_bulkR bulkBk c.blocks
    have h3 : bulkCd c = bulkR bulkBk c.blocks := rfl
    show 1 + c.blocks.length + bulkR (fun c : Cd => c.blocks.length) cs ≤ 1 + bulkCd c + bulkR bulkCd cs
    omega
theorem nbTo_le (cs : List Cd) (j : Nat) : nbTo cs j ≤ bulkR bulkCd cs := by
  unfold nbTo
  have h1 := bulkR_rest (fun c : Cd => c.blocks.length) cs j
  have h2 := nb_le cs
  omega
def CdW (w : World) (lo hi : Nat) (cs : List Cd) (A : Option Addr) : Prop := cs = [] ∨ ∃ b o, A = some ⟨b, o, none⟩ ∧ Between w lo hi b ∧ ∀ i, (h : i < cs.length) →
  (∃ x, w.cell? ⟨b, o + i * 3, none⟩ = some (.int .i64 x)) ∧ (∃ x, w.cell? ⟨b, o + i * 3 + 1, none⟩ = some (.int .i64 x)) ∧ ∃ A' c, w.cell? ⟨b, o + i * 3 + 2, none⟩ = some (.slice A' cs[i].blocks.length c) ∧ cs[i].blocks.length ≤ 1048576 ∧ BkW w lo hi cs[i].blocks.length A'
theorem CdW.soft {w w' : World} {lo hi : Nat} {cs : List Cd} {A : Option Addr} (h : CdW w lo hi cs A) (s : Soft lo hi w w') : CdW w' lo hi cs A := by
  rcases h with h | ⟨b, o, e, hb, hc⟩
  · exact .inl h
  · refine .inr ⟨b, o, e, ⟨hb.1, hb.2.1, s.flat b hb.2.2⟩, fun i hi => ?_⟩
    obtain ⟨⟨x, hx⟩, ⟨y, hy⟩, A4, c4, p4, q4, r4⟩ := hc i hi
    exact ⟨s.nums _ x hx, s.nums _ y hy, A4, c4, s.slices _ _ _ _ p4, q4, r4.soft s⟩
theorem CdS.cdW {w : World} {lo hi : Nat} {cs : List Cd} {A : Option Addr} (h : CdS w (Between w lo hi) cs A) (hn : bulkR bulkCd cs ≤ 1048576) : CdW w lo hi cs A := by
  rcases h with rfl | ⟨b, o, e, hb, hc⟩
  · exact .inl rfl
  · refine .inr ⟨b, o, e, hb, fun i hi => ?_⟩
    obtain ⟨p0, p1, A4, c4, p4, r4⟩ := hc i hi
    have h1 := bulkR_mem (f := bulkCd) (List.getElem_mem hi)
    have h2 := length_le_bulkR bulkBk cs[i].blocks
    have h3 : bulkCd cs[i] = bulkR bulkBk cs[i].blocks := rfl
    exact ⟨⟨_, p0⟩, ⟨_, p1⟩, A4, c4, p4, by omega, r4.bkW (by omega)⟩
set_option maxHeartbeats 4000000 in
theorem markCodeS_soft (lo hi : Nat) (cs : List Cd) (hn : bulkR bulkCd cs ≤ 1048576) (A : Option Addr) (cap : Nat) (w : World) (hR : CdW w lo hi cs A) :
    Calls Tryd.prog 28 #[.slice A cs.length cap, .int .i64 1] w (MkS lo hi 1 2305850081280000000 w) := by
  have hln := length_le_bulkR bulkCd cs
  have HNB := Lib.hid (fun j => nbTo_le cs j)
  have HR := Lib.hid hR
  clear hR
  go_enter Tryd.func28, Tryd.ntmps28
  go_wp2_with fail
  go_loopw [1, 5] (fun m i wr => ∃ (j : Nat) (q : Int), j ≤ cs.length ∧ i = .int .i64 j ∧ m = .int .i64 q ∧ 1 ≤ q ∧ q ≤ 1 + (nbTo cs j * 2199030000000 : Nat) ∧ Soft lo hi w wr) (fun _ i _ => cs.length - (intOf i).toNat)
  case atStart => exact ⟨0, 1, Nat.zero_le _, rfl, rfl, by omega, by omega, Soft.refl _ _ _⟩
  case round =>
    obtain ⟨j, q, hj, rfl, rfl, hq0, hq1, hs⟩ := hrel
    by_cases hlt : j < cs.length
    · rcases HR.out.soft hs with h | ⟨b, o, rfl, hb, hc⟩
      · rw [h] at hlt; simp at hlt
      · obtain ⟨⟨x0, c0⟩, ⟨x1, c1⟩, A2, e2, c2, m2, r2⟩ := hc j hlt
        have hnb := nbTo_succ hlt
        have hnl := HNB.out (j + 1)
        generalize hnj : nbTo cs (j + 1) = nj1 at hnb hnl
        generalize nbTo cs j = nj at hnb hq1
        have HNJ1 := Lib.hid hnj
        clear hnj
        generalize cs[j].blocks.length = nb at *
        have f0 := flatFree hb.2.2 (o + j * 3)
        have f1 := flatFree hb.2.2 (o + j * 3 + 1)
        have s1 := Soft.put hb.1 hb.2.1 c0 q
        have c1' : (wr.setCell ⟨b, o + j * 3, none⟩ (.int .i64 q)).cell? ⟨b, o + j * 3 + 1, none⟩ = some (.int .i64 x1) := (World.cell?_setCell_other _ _ _ _ (by intro e; injection e; omega)).trans c1
        have s2 := s1.trans (Soft.put hb.1 hb.2.1 c1' (q + 1))
        have c2' := s2.slices _ _ _ _ c2
        have CM := Lib.hid (markBlockS_soft lo hi nb m2 A2 e2 (q + 1 + 1) (by omega) (by omega) _ (r2.soft s2))
        have HS := Lib.hid (hs.trans s2)
        have HNJ := Lib.hid hnb
        have hq9 : q ≤ 2900000000000000000 := by omega
        clear hs hc hb s1 s2 r2 c2 c1' hnb
        go_wp2_with fail
        (with_reducible refine Calls.mono CM.out ?_)
        rintro ee w2 ⟨⟨k', rfl, hk0, hk1⟩, hs2⟩
        have hnb := HNJ.out
        have HQ := Lib.hid (show k' ≤ 1 + (nj1 * 2199030000000 : Nat) by omega)
        clear hnb HNJ c0 c1 f0 f1
        go_wp2_with fail
        go_roundw
        case rel => exact ⟨j + 1, k', by omega, by go_num, rfl, by omega, by rw [HNJ1.out]; exact HQ.out, HS.out.trans hs2⟩
        case measure => simp only [intOf]; omega
    · obtain rfl : j = cs.length := by omega
      have hnl := HNB.out cs.length
      go_wp2_with fail
      go_ret
      exact ⟨⟨_, rfl, by omega, by omega⟩, hs⟩
set_option maxHeartbeats 2000000 in
theorem markUnit_soft (lo hi : Nat) (cs : List Cd) (hn : bulkR bulkCd cs ≤ 1048576) (A : Option Addr) (cap : Nat) (w : World) (hlo : lo ≤ w.heap.size) (hR : CdW w lo hi cs A) :
    Calls Tryd.prog 12 #[.agg #[.slice A cs.length cap], .int .i64 1] w (MkS lo hi 1 2305850081280000000 w) := by
  have hal := (Below.refl w.heap.size w).alloc (Nat.le_refl _) (.cells #[.slice A cs.length cap] 30)
  have s0 := Soft.of_below (lo := lo) (hi := hi) hal hlo
  have CM := Lib.hid (markCodeS_soft lo hi cs hn A cap _ (hR.soft s0))
  have HS := Lib.hid s0
  clear hR s0 hal
  go_enter Tryd.func12, Tryd.ntmps12
  go_wp2_with fail
  (with_reducible refine Calls.mono CM.out ?_)
  rintro ee w2 ⟨⟨k', rfl, hk0, hk1⟩, hs2⟩
  go_wp2_with fail
  go_ret
  exact ⟨⟨_, rfl, hk0, hk1⟩, HS.out.trans hs2⟩
end Go.Proofs.YtomhomnibikceaaDoor
