/-
  The program's SameExpr.
-/
import Derived.Test.YtoepehlndljkoaaGB
import Derived.Deep.LoopGhost
import Derived.StillTailTactics
import Derived.RegionTactic
import Derived.Deep.AppendLies
import Derived.Deep.RegionLaw
import Derived.Deep.CutRange
namespace Go.Proofs.Ytoepehlndljkoaa
open Go.RowKit
set_option maxRecDepth 100000

theorem pairInfo : (Try.prog.info? 38).map (fun i => (i.zero, i.size, i.bytes)) = some (some (.agg #[.int .i64 0, .int .i64 0, .string ⟨#[]⟩, .slice none 0 0, .int .i64 0, .int .i64 0, .string ⟨#[]⟩, .slice none 0 0]), 8, 112) := by kernel_rfl
open Classical in
theorem seen_yes {w : World} {R : Nat} {K : List KP} (h : Seen w R K) (k : KP) (hk : k.flat w) (hf : ∀ x ∈ K, x.flat w) (hin : k ∈ K) :
    (Instr.lookup 40 (.map (some R)) k.v false).run Try.prog w = .ok (.bool true) w := by
  have := seen_ask h k hk hf
  rw [decide_eq_true hin] at this
  exact this
open Classical in
theorem seen_no {w : World} {R : Nat} {K : List KP} (h : Seen w R K) (k : KP) (hk : k.flat w) (hf : ∀ x ∈ K, x.flat w) (hin : k ∉ K) :
    (Instr.lookup 40 (.map (some R)) k.v false).run Try.prog w = .ok (.bool false) w := by
  have := seen_ask h k hk hf
  rw [decide_eq_false hin] at this
  exact this
/-- Pairs that wait, in memory of the call's own. -/
def WP (w : World) (base : Nat) (v : Value) (L : List It) : Prop := w.ownsRow base 38 8 v L.length (itCells L)
theorem WP.slice {w : World} {base : Nat} {v : Value} {L : List It} (h : WP w base v L) : ∃ A cap, v = .slice A L.length cap := by
  rcases h.2 with ⟨rfl, h0⟩ | ⟨g, cap, cur, rfl, _⟩
  · exact ⟨none, 0, by rw [h0]⟩
  · exact ⟨_, cap, rfl⟩
theorem WP.last {w : World} {base : Nat} {v : Value} {L : List It} {i : It} (h : WP w base v (L ++ [i])) : ∃ g cap, v = .slice (some ⟨g, 0, none⟩) (L.length + 1) cap ∧ base ≤ g ∧ L.length + 1 ≤ cap ∧ g < w.heap.size ∧ (∀ j, j < 8 → w.cell? ⟨g, L.length * 8 + j, none⟩ = i.cells[j]?) ∧ WP w base (.slice (some ⟨g, 0, none⟩) L.length cap) L := by
  rcases h with ⟨h1, ⟨rfl, h0⟩ | ⟨g, cap, cur, rfl, hg, hb, hn, hm, hs, ht⟩⟩
  · simp at h0
  · have hlt : g < w.heap.size := (Array.getElem?_eq_some_iff.1 hb).1
    have hl : (L ++ [i]).length = L.length + 1 := by simp
    rw [hl] at hn ht h1
    refine ⟨g, cap, by rw [hl], hg, hn, hlt, fun j hj => ?_, ?_⟩
    · rw [← itCells_last L i j hj, ← ht, List.getElem?_take_of_lt (by omega)]
      unfold World.cell?
      simp [hb]
    · refine ⟨itCells_length L, .inr ⟨g, cap, cur, rfl, hg, hb, by omega, hm, hs, ?_⟩⟩
      have := congrArg (List.take (L.length * 8)) ht
      rw [List.take_take, itCells_app, List.take_left' (itCells_length L)] at this
      rw [← this]
      congr 1
      omega
theorem WP.below {w w' : World} {base : Nat} {v : Value} {L : List It} (h : WP w base v L) (hb : Below w.heap.size w w') : WP w' base v L := by
  rcases h with ⟨h1, h | ⟨g, cap, cur, e1, e2, e3, e4⟩⟩
  · exact ⟨h1, .inl h⟩
  · exact ⟨h1, .inr ⟨g, cap, cur, e1, e2, by rw [hb.block g (Array.getElem?_eq_some_iff.1 e3).1]; exact e3, e4⟩⟩
theorem Seen.below {w w' : World} {R : Nat} {K : List KP} (h : Seen w R K) (hb : Below w.heap.size w w') : Seen w' R K := by
  obtain ⟨es, clock, h1, h2⟩ := h
  exact ⟨es, clock, by rw [hb.block R (Array.getElem?_eq_some_iff.1 h1).1]; exact h1, h2⟩
theorem WP.apart {w : World} {base R g n cap : Nat} {L : List It} {K : List KP} (h : WP w base (.slice (some ⟨g, 0, none⟩) n cap) L) (hs : Seen w R K) : g ≠ R := by
  obtain ⟨es, clock, h1, _⟩ := hs
  rcases h.2 with ⟨e, _⟩ | ⟨g', c', cur, e, _, h2, _⟩
  · cases e
  · injection e with e
    injection e with e
    injection e with e
    subst e
    intro e
    subst e
    rw [h2] at h1
    cases h1
theorem WP.apart' {w : World} {base R : Nat} {v : Value} {L : List It} {K : List KP} (h : WP w base v L) (hs : Seen w R K) : some R ≠ v.ownBlock := by
  intro e
  rcases h.2 with ⟨e1, _⟩ | ⟨g, c, cur, e1, _⟩
  · rw [e1] at e; cases e
  · have h' : WP w base (.slice (some ⟨g, 0, none⟩) L.length c) L := by rw [← e1]; exact h
    rw [e1] at e
    injection e with e
    exact h'.apart hs e.symm
theorem WP.lt {w : World} {base : Nat} {v : Value} {L : List It} (h : WP w base v L) : ∀ k, v.ownBlock = some k → base ≤ k ∧ k < w.heap.size := World.ownsRow.lt h
theorem WP.snoc {w : World} {base g c n : Nat} {L : List It} {i : It} (hn : L.length = n) (h : w.ownsRow base 38 8 (.slice (some ⟨g, 0, none⟩) (n + 1) c) (n + 1) (itCells L ++ i.cells)) : WP w base (.slice (some ⟨g, 0, none⟩) (n + 1) c) (L ++ [i]) := by
  unfold WP
  rw [List.length_append, itCells_app, hn]
  show w.ownsRow base _ 8 _ (n + 1) (itCells L ++ (i.cells ++ []))
  rw [List.append_nil]
  exact h
theorem WP.grow {w w' : World} {base : Nat} {v : Value} {L : List It} {R : Nat} (h : WP w base v L) (hg : w.grownBy w' (some R)) (hne : v.ownBlock ≠ some R) : WP w' base v L := World.ownsRow.kept h hg (.inr hne)
theorem Seen.grow {w w' : World} {R : Nat} {K : List KP} {row : Option Nat} (h : Seen w R K) (hg : w.grownBy w' row) (hne : some R ≠ row) : Seen w' R K := by
  obtain ⟨es, clock, h1, h2⟩ := h
  exact ⟨es, clock, by rw [hg.block R (Array.getElem?_eq_some_iff.1 h1).1 hne]; exact h1, h2⟩
theorem Seen.lt {w : World} {R : Nat} {K : List KP} (h : Seen w R K) : R < w.heap.size := by
  obtain ⟨es, clock, h1, _⟩ := h
  exact (Array.getElem?_eq_some_iff.1 h1).1
/-- What holds while the Kids of a pair are laid down. -/
def InRel (w : World) (R nk : Nat) (L' : List It) (i : It) (K : List KP) (v c : Value) (wx : World) : Prop :=
  ∃ (k : Nat) (M : List It), k ≤ nk ∧ c = .int .i64 k ∧ WP wx w.heap.size v (L' ++ M) ∧ M.length = k ∧ M.map It.p = (i.x.kids.zip i.y.kids).take k ∧ (∀ j ∈ M, j.ok w) ∧ meas M = sizeL (i.x.kids.take k) ∧ Seen wx R K ∧ Below w.heap.size w wx
/-- What holds while pairs wait. -/
def SameRel (a b : E) (w : World) (R : Nat) (gk : Nat) (v : Value) (wr : World) : Prop :=
  ∃ (L : List It) (K : List KP) (S : List (List E × List E)), WP wr w.heap.size v L ∧ Seen wr R K ∧ KS w K S ∧ (∀ i ∈ L, i.ok w) ∧ Inv a b (L.map It.p) S ∧ Below w.heap.size w wr ∧ meas L ≤ gk ∧ gk ≤ 2000001
theorem four_start (w : World) (o1 o2 : Obj) (i : It) (hi : i.ok w) : SameRel i.x i.y w (w.heap.size + 1 + 1 + 1) (sizeE i.x) (.slice (some ⟨w.heap.size + 1 + 1, 0, none⟩) 1 1)
    ((((w.alloc o1).alloc o2).alloc (.cells i.cells.toArray 38)).alloc (.map #[] 0)) := by
  have s1 : (w.alloc o1).heap.size = w.heap.size + 1 := World.size_alloc _ _
  have s2 : ((w.alloc o1).alloc o2).heap.size = w.heap.size + 1 + 1 := by rw [World.size_alloc, s1]
  have s3 : (((w.alloc o1).alloc o2).alloc (.cells i.cells.toArray 38)).heap.size = w.heap.size + 1 + 1 + 1 := by rw [World.size_alloc, s2]
  have hb := ((((Below.refl w.heap.size w).alloc (Nat.le_refl _) o1).alloc (by rw [s1]; omega) o2).alloc (by rw [s2]; omega) (.cells i.cells.toArray 38)).alloc (by rw [s3]; omega) (.map #[] 0)
  refine ⟨[i], [], [], ?_, ?_, .nil, ?_, Inv.start _ _, hb, ?_, hi.sx⟩
  · refine ⟨rfl, .inr ⟨w.heap.size + 1 + 1, 1, i.cells.toArray, rfl, by omega, ?_, by simp, by unfold maxLen; omega, rfl, ?_⟩⟩
    · rw [heap_alloc_old _ _ (by rw [s3]; omega)]
      have := heap_alloc_new ((w.alloc o1).alloc o2) (.cells i.cells.toArray 38)
      rw [s2] at this
      exact this
    · rfl
  · refine ⟨#[], 0, ?_, rfl, fun e he => by simp at he⟩
    have := heap_alloc_new (((w.alloc o1).alloc o2).alloc (.cells i.cells.toArray 38)) (.map #[] 0)
    rw [s3] at this
    exact this
  · intro j hj; simp at hj; subst hj; exact hi
  · show sizeE i.x + 0 ≤ _; omega
theorem new_eight (w : World) (a b c d e f g h : Value) (t : TypeId) : ∀ (j : Nat) u, [a, b, c, d, e, f, g, h][j]? = some u → (w.alloc (.cells #[a, b, c, d, e, f, g, h] t)).drew.cell? ((⟨w.heap.size, 0, none⟩ : Addr).add j) = some u := by
  intro j u hu
  have h0 : (w.alloc (.cells #[a, b, c, d, e, f, g, h] t)).drew.cell? ((⟨w.heap.size, 0, none⟩ : Addr).add j) = #[a, b, c, d, e, f, g, h][j]? := by
    have e1 : (⟨w.heap.size, 0, none⟩ : Addr).add j = ⟨w.heap.size, j, none⟩ := by
      unfold Addr.add
      by_cases hj : j = 0
      · rw [if_pos hj, hj]
      · rw [if_neg hj, Nat.zero_add]
    rw [e1]
    exact alloc_cell w _ _ (0, 0) j
  rw [h0, ← hu, ← List.getElem?_toArray]
theorem eight_one (a b c d : Int) (s t : ByteArray) (A : Option Addr) (n m : Nat) (B : Option Addr) (k l : Nat) : ∀ u ∈ [Value.int .i64 a, .int .i64 b, .string s, .slice A n m, .int .i64 c, .int .i64 d, .string t, .slice B k l], u.oneCell' = true := by
  intro u hu
  simp only [List.mem_cons, List.not_mem_nil, or_false] at hu
  rcases hu with rfl | rfl | rfl | rfl | rfl | rfl | rfl | rfl <;> rfl
set_option maxHeartbeats 1000000 in
/-- The lists below a part: one, of its Kids. -/
theorem listsOfKids_any (op z : Int) (s : ByteArray) (A : Option Addr) (n c : Nat) (w : World) :
    Calls Try.prog 13 #[.agg #[.int .i64 op, .int .i64 z, .string s, .slice A n c]] w fun ee w' => ∃ g, ee = .returned (.slice (some ⟨g, 0, none⟩) 1 1) ∧ w'.cell? ⟨g, 0, none⟩ = some (.slice A n c) ∧ g < w'.heap.size ∧ Below w.heap.size w w' := by
  have hb1 := (Below.refl w.heap.size w).alloc (Nat.le_refl _) (.cells #[.int .i64 op, .int .i64 z, .string s, .slice A n c] 29)
  have k3 : (w.alloc (.cells #[.int .i64 op, .int .i64 z, .string s, .slice A n c] 29)).cell? ⟨w.heap.size, 3, none⟩ = some (.slice A n c) := alloc_cell w _ _ (0, 0) 3
  go_enter Try.func13, Try.ntmps13
  go_upto_region 1 with (fail)
  generalize w.alloc (.cells #[.int .i64 op, .int .i64 z, .string s, .slice A n c] 29) = w1 at *
  have hb2 := hb1.trans (((Below.refl w1.heap.size w1).alloc (Nat.le_refl _) (.cells #[.slice A n c] 27)).mono hb1.size)
  have k0 : (w1.alloc (.cells #[.slice A n c] 27)).cell? ⟨w1.heap.size, 0, none⟩ = some (.slice A n c) := alloc_cell w1 _ _ (0, 0) 0
  have hl : w1.heap.size < (w1.alloc (.cells #[.slice A n c] 27)).heap.size := by rw [World.size_alloc]; omega
  go_wp2_with fail
  go_ret
  exact ⟨_, rfl, k0, hl, hb2⟩
set_option maxHeartbeats 4000000 in
theorem sameTrees_walk (a b : E) (A : Option Addr) (cap : Nat) (A' : Option Addr) (cap' : Nat) (w : World) (hR : PdS w (Between w 0 w.heap.size) a.kids A) (hR' : PdS w (Between w 0 w.heap.size) b.kids A') (hl : bulkE a ≤ 2000000) (hl' : bulkE b ≤ 2000000) :
    Calls Try.prog 11 #[exV a A cap, exV b A' cap', .func (.func 12) #[] #[], .func (.func 13) #[] #[]] w (BoolB (eqB a b) w) := by
  unfold exV
  have hsz := sizeE_bulk a
  have hsz' := sizeE_bulk b
  have ST := fun o1 o2 => Lib.hid (four_start w o1 o2 ⟨a, A, cap, b, A', cap'⟩ ⟨hR, hR', (by show sizeE a ≤ _; omega), (by show sizeE b ≤ _; omega)⟩)
  unfold It.cells at ST
  dsimp only at ST
  clear hR hR' hl hsz hl' hsz'
  have hmm := @run_makeMap Try.prog
  go_enter Try.func11, Try.ntmps11
  go_wp2_with fail
  clear hmm
  go_loopg [9] (sizeE a) (fun gk v wr => SameRel a b w (w.heap.size + 1 + 1 + 1) gk v wr)
  case atStart => exact (ST _ _).out
  case round =>
    clear ST
    obtain ⟨L, K, S, hW, hS, hK, hok, hI, hB, hm, hg⟩ := hrel
    rcases List.eq_nil_or_concat L with rfl | ⟨L', i, rfl⟩
    · obtain ⟨A0, c0, rfl⟩ := hW.slice
      have HI := Lib.hid hI.done
      clear hW hS hK hok hI hm hg
      go_wp2_with fail
      go_ret
      exact ⟨ret_bool (by rw [HI.out, eqB_yes]), hB⟩
    · rw [List.concat_eq_append] at *
      have HM := Lib.hid hm
      rw [meas_app] at hm
      have hlen := meas_len L'
      obtain ⟨g, c0, rfl, hg0, hcap, hgl, hcell, hW'⟩ := hW.last
      have HW := Lib.hid hW'
      have HS := Lib.hid hS
      have HK := Lib.hid hK
      have HOK := Lib.hid hok
      have HI := Lib.hid hI
      have HB := Lib.hid hB
      clear hW hW' hS hK hok hI hB
      have hml : L'.length ≤ 2000001 := by omega
      have d0 := hcell 0 (by omega)
      have d1 := hcell 1 (by omega)
      have d2 := hcell 2 (by omega)
      have d3 := hcell 3 (by omega)
      have d4 := hcell 4 (by omega)
      have d5 := hcell 5 (by omega)
      have d6 := hcell 6 (by omega)
      have d7 := hcell 7 (by omega)
      clear hcell
      unfold It.cells at d0 d1 d2 d3 d4 d5 d6 d7
      rw [Nat.add_zero] at d0
      simp only [List.getElem?_cons_zero, List.getElem?_cons_succ] at d0 d1 d2 d3 d4 d5 d6 d7
      generalize hm' : L'.length = m at *
      have HML := Lib.hid hm'
      have hoi : i.ok w := HOK.out i (by simp)
      have SB := fun W => sameBeside_any i.x i.y i.A i.c i.B i.d W
      have HO := Lib.hid hoi
      unfold exV at SB
      clear hm' hm hlen hoi
      go_wp2_with fail
      have hbn := (Below.refl wr.heap.size wr).alloc (Nat.le_refl _) (.cells #[.int .i64 i.x.op, .int .i64 i.x.n, .string i.x.name, .slice i.A i.x.kids.length i.c, .int .i64 i.y.op, .int .i64 i.y.n, .string i.y.name, .slice i.B i.y.kids.length i.d] 38)
      have n0 := alloc_cell wr #[.int .i64 i.x.op, .int .i64 i.x.n, .string i.x.name, .slice i.A i.x.kids.length i.c, .int .i64 i.y.op, .int .i64 i.y.n, .string i.y.name, .slice i.B i.y.kids.length i.d] 38 (0, 0) 0
      have n1 := alloc_cell wr #[.int .i64 i.x.op, .int .i64 i.x.n, .string i.x.name, .slice i.A i.x.kids.length i.c, .int .i64 i.y.op, .int .i64 i.y.n, .string i.y.name, .slice i.B i.y.kids.length i.d] 38 (0, 0) 1
      have n2 := alloc_cell wr #[.int .i64 i.x.op, .int .i64 i.x.n, .string i.x.name, .slice i.A i.x.kids.length i.c, .int .i64 i.y.op, .int .i64 i.y.n, .string i.y.name, .slice i.B i.y.kids.length i.d] 38 (0, 0) 2
      have n3 := alloc_cell wr #[.int .i64 i.x.op, .int .i64 i.x.n, .string i.x.name, .slice i.A i.x.kids.length i.c, .int .i64 i.y.op, .int .i64 i.y.n, .string i.y.name, .slice i.B i.y.kids.length i.d] 38 (0, 0) 3
      have n4 := alloc_cell wr #[.int .i64 i.x.op, .int .i64 i.x.n, .string i.x.name, .slice i.A i.x.kids.length i.c, .int .i64 i.y.op, .int .i64 i.y.n, .string i.y.name, .slice i.B i.y.kids.length i.d] 38 (0, 0) 4
      have n5 := alloc_cell wr #[.int .i64 i.x.op, .int .i64 i.x.n, .string i.x.name, .slice i.A i.x.kids.length i.c, .int .i64 i.y.op, .int .i64 i.y.n, .string i.y.name, .slice i.B i.y.kids.length i.d] 38 (0, 0) 5
      have n6 := alloc_cell wr #[.int .i64 i.x.op, .int .i64 i.x.n, .string i.x.name, .slice i.A i.x.kids.length i.c, .int .i64 i.y.op, .int .i64 i.y.n, .string i.y.name, .slice i.B i.y.kids.length i.d] 38 (0, 0) 6
      have n7 := alloc_cell wr #[.int .i64 i.x.op, .int .i64 i.x.n, .string i.x.name, .slice i.A i.x.kids.length i.c, .int .i64 i.y.op, .int .i64 i.y.n, .string i.y.name, .slice i.B i.y.kids.length i.d] 38 (0, 0) 7
      have hln : wr.heap.size < (wr.alloc (.cells #[.int .i64 i.x.op, .int .i64 i.x.n, .string i.x.name, .slice i.A i.x.kids.length i.c, .int .i64 i.y.op, .int .i64 i.y.n, .string i.y.name, .slice i.B i.y.kids.length i.d] 38)).heap.size := by rw [World.size_alloc]; omega
      generalize wr.alloc (.cells #[.int .i64 i.x.op, .int .i64 i.x.n, .string i.x.name, .slice i.A i.x.kids.length i.c, .int .i64 i.y.op, .int .i64 i.y.n, .string i.y.name, .slice i.B i.y.kids.length i.d] 38) = wn at *
      have SB1 := Lib.hid (SB wn)
      clear SB d0 d1 d2 d3 d4 d5 d6 d7
      (with_reducible refine Calls.mono SB1.out ?_)
      rintro ee w1 ⟨rfl, hb1⟩
      have hb2 := hbn.trans (hb1.mono hbn.size)
      have hl1 := Nat.lt_of_lt_of_le hln hb1.size
      have k0 := (hb1.cell (p := ⟨wr.heap.size, 0, none⟩) hln).trans n0
      have k1 := (hb1.cell (p := ⟨wr.heap.size, 1, none⟩) hln).trans n1
      have k2 := (hb1.cell (p := ⟨wr.heap.size, 2, none⟩) hln).trans n2
      have k3 := (hb1.cell (p := ⟨wr.heap.size, 3, none⟩) hln).trans n3
      have k4 := (hb1.cell (p := ⟨wr.heap.size, 4, none⟩) hln).trans n4
      have k5 := (hb1.cell (p := ⟨wr.heap.size, 5, none⟩) hln).trans n5
      have k6 := (hb1.cell (p := ⟨wr.heap.size, 6, none⟩) hln).trans n6
      have k7 := (hb1.cell (p := ⟨wr.heap.size, 7, none⟩) hln).trans n7
      clear SB1 n0 n1 n2 n3 n4 n5 n6 n7 hbn hb1 hln
      have hBw : Below w.heap.size w w1 := HB.out.trans (hb2.mono HB.out.size)
      cases hz : bes3 i.x i.y
      · have HE := Lib.hid (show eqB a b = false from eqB_no (Inv.no (q := i.p) (by have h := HI.out; rw [List.map_append] at h; exact h) (bes3_no hz)))
        clear hz
        go_wp2_with fail
        go_ret
        exact ⟨ret_bool HE.out.symm, hBw⟩
      · have HZ3 := Lib.hid hz
        clear hz
        have hnx : i.x.kids.length ≤ 2000001 := by have h1 := length_le_sizeL i.x.kids; have h2 := sizeE_kids i.x; have h3 := HO.out.sx; omega
        have hny : i.y.kids.length ≤ 2000001 := by have h1 := length_le_sizeL i.y.kids; have h2 := sizeE_kids i.y; have h3 := HO.out.sy; omega
        have LB := Lib.hid (listsOfKids_any i.y.op i.y.n i.y.name i.B i.y.kids.length i.d w1)
        go_wp2_with fail
        (with_reducible refine Calls.mono LB.out ?_)
        rintro ee wb ⟨gB, rfl, lB, hlB, hbb⟩
        have m0 := (hbb.cell (p := ⟨wr.heap.size, 0, none⟩) hl1).trans k0
        have m1 := (hbb.cell (p := ⟨wr.heap.size, 1, none⟩) hl1).trans k1
        have m2 := (hbb.cell (p := ⟨wr.heap.size, 2, none⟩) hl1).trans k2
        have m3 := (hbb.cell (p := ⟨wr.heap.size, 3, none⟩) hl1).trans k3
        have hlb := Nat.lt_of_lt_of_le hl1 hbb.size
        have LA := Lib.hid (listsOfKids_any i.x.op i.x.n i.x.name i.A i.x.kids.length i.c wb)
        clear LB k0 k1 k2 k3 k4 k5 k6 k7
        go_wp2_with fail
        (with_reducible refine Calls.mono LA.out ?_)
        rintro ee wa ⟨gA, rfl, lA, hlA, hba⟩
        replace lB := (hba.cell (p := ⟨gB, 0, none⟩) hlB).trans lB
        have hb1a := hbb.trans (hba.mono hbb.size)
        have hb2a := hb2.trans (hb1a.mono hb2.size)
        have hBwa : Below w.heap.size w wa := hBw.trans (hb1a.mono hBw.size)
        clear LA m0 m1 m2 m3 hlB hlA hba hbb hlb hb2 hBw hl1 hb1a
        by_cases hlen : i.x.kids.length = i.y.kids.length
        case neg =>
          have HE := Lib.hid (show eqB a b = false from eqB_no (Inv.no (q := i.p) (by have h := HI.out; rw [List.map_append] at h; exact h) (bes3_len hlen)))
          have qne : ((i.x.kids.length : Int) != (i.y.kids.length : Int)) = true := by rw [bne, beq_no (by omega)]; rfl
          clear hlen
          go_wp2_with fail
          refine wp_loop_rounds 2 ?_
          rw [rounds_succ]
          go_wp2_with fail
          go_ret
          exact ⟨ret_bool HE.out.symm, hBwa⟩
        have hly := hlen
        have HZ := Lib.hid (bes3_yes HZ3.out hly)
        rw [← hly] at lB
        have HY := Lib.hid hly
        clear hly hlen hny
        have qnn : ((i.x.kids.length : Int) != (i.x.kids.length : Int)) = false := by simp
        go_wp2_with fail
        refine wp_loop_rounds 2 ?_
        rw [rounds_succ]
        by_cases hkx : i.x.kids = []
        · have HX := Lib.hid hkx
          rw [hkx] at lA lB qnn
          have q0 : ((([] : List E).length : Int) == 0) = true := rfl
          clear hkx
          go_wp2_with fail
          rw [rounds_succ]
          go_wp2_with fail
          go_roundg (gk - 1)
          case measure => have h1 := HM.out; rw [meas_app] at h1; have h2 : meas [i] = sizeE i.x + 0 := rfl; have h3 := sizeE_pos i.x; omega
          case rel =>
            have h1 := HM.out
            rw [meas_app] at h1
            have h2 : meas [i] = sizeE i.x + 0 := rfl
            have h3 := sizeE_pos i.x
            exact ⟨L', K, S, HW.out.below hb2a, HS.out.below hb2a, HK.out, fun j hj => HOK.out j (by simp [hj]), Inv.leaf (q := i.p) (by have h := HI.out; rw [List.map_append] at h; exact h) HZ.out HX.out, hBwa, by omega, by omega⟩
        · have hne : i.x.kids ≠ [] := hkx
          clear hkx
          have hne' : i.y.kids ≠ [] := by intro e; have h := HY.out; rw [e] at h; exact hne (List.length_eq_zero_iff.1 h)
          obtain ⟨bx, ox, eA, hSx, hCx⟩ := HO.out.px.resolve_left hne
          obtain ⟨by_, oy, eB, hSy, hCy⟩ := HO.out.py.resolve_left hne'
          rw [eA] at lA
          rw [eB] at lB
          have hpos : 0 < i.x.kids.length := List.length_pos_iff.2 hne
          have hbd : i.x.kids.length ≤ 2000001 := by have h1 := length_le_sizeL i.x.kids; have h2 := sizeE_kids i.x; have h3 := HO.out.sx; omega
          have HCX := Lib.hid hCx
          have HCY := Lib.hid hCy
          have HSX := Lib.hid hSx
          have HSY := Lib.hid hSy
          clear hne hne' eA eB hCx hCy hSx hSy
          generalize hnk : i.x.kids.length = nk at *
          have HNK := Lib.hid hnk
          clear hnk
          have q0 : ((nk : Int) == 0) = false := beq_no (by omega)
          go_wp2_with fail
          go_region
          have hb12 := ((Below.refl wa.heap.size wa).alloc (Nat.le_refl _) (.cells #[.pointer (some ⟨bx, ox, none⟩), .pointer (some ⟨by_, oy, none⟩), .int .i64 (nk : Int)] 44)).drew
          have y0 : (wa.alloc (.cells #[.pointer (some ⟨bx, ox, none⟩), .pointer (some ⟨by_, oy, none⟩), .int .i64 (nk : Int)] 44)).drew.cell? ⟨wa.heap.size, 0, none⟩ = some (.pointer (some ⟨bx, ox, none⟩)) := alloc_cell wa _ _ (0, 0) 0
          have y1 : (wa.alloc (.cells #[.pointer (some ⟨bx, ox, none⟩), .pointer (some ⟨by_, oy, none⟩), .int .i64 (nk : Int)] 44)).drew.cell? ⟨wa.heap.size, 1, none⟩ = some (.pointer (some ⟨by_, oy, none⟩)) := alloc_cell wa _ _ (0, 0) 1
          have y2 : (wa.alloc (.cells #[.pointer (some ⟨bx, ox, none⟩), .pointer (some ⟨by_, oy, none⟩), .int .i64 (nk : Int)] 44)).drew.cell? ⟨wa.heap.size, 2, none⟩ = some (.int .i64 (nk : Int)) := alloc_cell wa _ _ (0, 0) 2
          generalize (wa.alloc (.cells #[.pointer (some ⟨bx, ox, none⟩), .pointer (some ⟨by_, oy, none⟩), .int .i64 (nk : Int)] 44)).drew = w2 at *
          have hb3 := hb2a.trans (hb12.mono hb2a.size)
          have hBw2 : Below w.heap.size w w2 := hBwa.trans (hb12.mono hBwa.size)
          have hKF : KP.flat ⟨bx, ox, by_, oy, nk⟩ w2 := ⟨HSX.out.2.2.below hBw2 HSX.out.2.1, HSY.out.2.2.below hBw2 HSY.out.2.1⟩
          have HS2 := Lib.hid (HS.out.below hb3)
          have HW2 := Lib.hid (HW.out.below hb3)
          have HKF := Lib.hid hKF
          clear lA lB hb12 hBwa hKF qnn
          by_cases hin : (⟨bx, ox, by_, oy, nk⟩ : KP) ∈ K
          · have ASK := seen_yes HS2.out ⟨bx, ox, by_, oy, nk⟩ HKF.out (HK.out.flat hBw2) hin
            unfold KP.v at ASK
            dsimp only at ASK
            have HIN := Lib.hid (HK.out.find hin HNK.out.symm (HNK.out.trans HY.out) HCX.out HCY.out)
            clear hin
            go_wp2_with fail
            rw [rounds_succ]
            go_wp2_with fail
            go_roundg (gk - 1)
            case measure => have h1 := HM.out; rw [meas_app] at h1; have h2 : meas [i] = sizeE i.x + 0 := rfl; have h3 := sizeE_pos i.x; omega
            case rel =>
              have h1 := HM.out
              rw [meas_app] at h1
              have h2 : meas [i] = sizeE i.x + 0 := rfl
              have h3 := sizeE_pos i.x
              exact ⟨L', K, S, HW2.out, HS2.out, HK.out, fun j hj => HOK.out j (by simp [hj]), Inv.hit (q := i.p) (by have h := HI.out; rw [List.map_append] at h; exact h) HZ.out HIN.out, hBw2, by omega, by omega⟩
          · have ASK := seen_no HS2.out ⟨bx, ox, by_, oy, nk⟩ HKF.out (HK.out.flat hBw2) hin
            unfold KP.v at ASK
            dsimp only at ASK
            obtain ⟨w3, hrun, hS3, hg3, hz3⟩ := seen_add HS2.out ⟨bx, ox, by_, oy, nk⟩ HKF.out (HK.out.flat hBw2) hin
            unfold KP.v at hrun
            dsimp only at hrun
            clear hin
            have HS3 := Lib.hid hS3
            have HG3 := Lib.hid hg3
            clear hS3 hg3
            have IR0 := Lib.hid (show InRel w (w.heap.size + 1 + 1 + 1) nk L' i (K ++ [⟨bx, ox, by_, oy, nk⟩]) (.slice (some ⟨g, 0, none⟩) m c0) (.int .i64 ((0 : Nat) : Int)) w3 from
              ⟨0, [], Nat.zero_le _, rfl, by rw [List.append_nil]; exact HW2.out.grow HG3.out (by intro e; injection e with e; exact HW2.out.apart HS2.out e), rfl, rfl, (fun j hj => by cases hj), rfl, HS3.out, hBw2.grown HG3.out hBw2.size (fun k e => by cases e; omega)⟩)
            go_wp2_with fail
            go_loopw [9, 84] (fun v c wx => InRel w (w.heap.size + 1 + 1 + 1) nk L' i (K ++ [⟨bx, ox, by_, oy, nk⟩]) v c wx) (fun _ c _ => nk - (intOf c).toNat)
            case atStart => exact IR0.out
            case round =>
              clear IR0 ASK hrun hb3 hBw2 y0 y1 y2
              obtain ⟨k, M, hk, rfl, hWM, hML, hMp, hMo, hMm, hSx, hBx⟩ := hrel
              have HWM := Lib.hid hWM
              have HMM := Lib.hid (And.intro hML (And.intro hMp (And.intro hMo hMm)))
              have HSx := Lib.hid hSx
              have HBx := Lib.hid hBx
              clear hML hMp hMo hMm hSx hBx
              by_cases hlt : k < nk
              · have hkx : k < i.x.kids.length := by rw [HNK.out]; exact hlt
                have hky : k < i.y.kids.length := by rw [← HY.out]; exact hlt
                obtain ⟨⟨x0, x1, x2⟩, A1, c1, x3, px⟩ := HCX.out.get hkx
                obtain ⟨⟨v0, v1, v2⟩, A2, c2, v3, py⟩ := HCY.out.get hky
                have hj : It.ok w ⟨i.x.kids[k], A1, c1, i.y.kids[k], A2, c2⟩ := ⟨px, py, by have h1 := sizeL_get hkx; have h2 := sizeE_kids i.x; have h3 := HO.out.sx; dsimp only; omega, by have h1 := sizeL_get hky; have h2 := sizeE_kids i.y; have h3 := HO.out.sy; dsimp only; omega⟩
                have hz : ((i.x.kids.zip i.y.kids).take (k + 1)) = (i.x.kids.zip i.y.kids).take k ++ [(i.x.kids[k], i.y.kids[k])] := by rw [List.take_succ_eq_append_getElem (by rw [List.length_zip]; omega), List.getElem_zip]
                have hs := sizeL_take hkx
                have HJ := Lib.hid hj
                have HZ2 := Lib.hid hz
                have HS2' := Lib.hid hs
                replace x0 := (HBx.out.cell (p := ⟨bx, ox + k * 4, none⟩) HSX.out.2.1).trans x0
                replace x1 := (HBx.out.cell (p := ⟨bx, ox + k * 4 + 1, none⟩) HSX.out.2.1).trans x1
                replace x2 := (HBx.out.cell (p := ⟨bx, ox + k * 4 + 2, none⟩) HSX.out.2.1).trans x2
                replace x3 := (HBx.out.cell (p := ⟨bx, ox + k * 4 + 3, none⟩) HSX.out.2.1).trans x3
                replace v0 := (HBx.out.cell (p := ⟨by_, oy + k * 4, none⟩) HSY.out.2.1).trans v0
                replace v1 := (HBx.out.cell (p := ⟨by_, oy + k * 4 + 1, none⟩) HSY.out.2.1).trans v1
                replace v2 := (HBx.out.cell (p := ⟨by_, oy + k * 4 + 2, none⟩) HSY.out.2.1).trans v2
                replace v3 := (HBx.out.cell (p := ⟨by_, oy + k * 4 + 3, none⟩) HSY.out.2.1).trans v3
                clear px py hj hz hs
                generalize i.x.kids[k] = kx at *
                generalize i.y.kids[k] = ky at *
                obtain ⟨Av, cv, rfl⟩ := HWM.out.slice
                have hln : (L' ++ M).length = m + k := by rw [List.length_append, HML.out, HMM.out.1]
                rw [hln] at HWM
                have HLN := Lib.hid hln
                rw [hln]
                clear hln
                go_wp2_with fail
                obtain ⟨i0, hi, hz0, hz1, hz2⟩ := info_parts pairInfo
                have hw0 : wr.ownsRow w.heap.size 38 8 (.slice Av (m + k) cv) (m + k) (itCells (L' ++ M)) := by have h := HWM.out; unfold WP at h; rw [HLN.out] at h; exact h
                have HOW := Lib.hid (World.ownsRow.drew (World.ownsRow.alloc hw0 (.cells #[.int .i64 kx.op, .int .i64 kx.n, .string kx.name, .slice A1 kx.kids.length c1, .int .i64 ky.op, .int .i64 ky.n, .string ky.name, .slice A2 ky.kids.length c2] 38)))
                have HNW := Lib.hid (new_eight wr (.int .i64 kx.op) (.int .i64 kx.n) (.string kx.name) (.slice A1 kx.kids.length c1) (.int .i64 ky.op) (.int .i64 ky.n) (.string ky.name) (.slice A2 ky.kids.length c2) 38)
                have HTO := Lib.hid (eight_one kx.op kx.n ky.op ky.n kx.name ky.name A1 kx.kids.length c1 A2 ky.kids.length c2)
                have hal := ((Below.refl wr.heap.size wr).alloc (Nat.le_refl _) (.cells #[.int .i64 kx.op, .int .i64 kx.n, .string kx.name, .slice A1 kx.kids.length c1, .int .i64 ky.op, .int .i64 ky.n, .string ky.name, .slice A2 ky.kids.length c2] 38)).drew
                have hbz : w.heap.size ≤ (wr.alloc (.cells #[.int .i64 kx.op, .int .i64 kx.n, .string kx.name, .slice A1 kx.kids.length c1, .int .i64 ky.op, .int .i64 ky.n, .string ky.name, .slice A2 ky.kids.length c2] 38)).drew.heap.size := Nat.le_trans HBx.out.size hal.size
                have HAL := Lib.hid hal
                have HLB := Lib.hid (show (m + k + 1 ≤ maxLen ∧ (m + k + 1) * 112 ≤ 140737488355328) from ⟨by unfold maxLen; omega, by omega⟩)
                clear hw0 hal
                go_region_law (refine step_append_lies _ rfl _ _ 39 rfl w.heap.size 38 i0 (.agg #[.int .i64 0, .int .i64 0, .string ⟨#[]⟩, .slice none 0 0, .int .i64 0, .int .i64 0, .string ⟨#[]⟩, .slice none 0 0]) 8 112 Try.underlying39 hi hz0 hz1 hz2 rfl (by decide) _ (m + k) (itCells (L' ++ M)) rfl HOW.out ⟨wr.heap.size, 0, none⟩ 1 1 [.int .i64 kx.op, .int .i64 kx.n, .string kx.name, .slice A1 kx.kids.length c1, .int .i64 ky.op, .int .i64 ky.n, .string ky.name, .slice A2 ky.kids.length c2] rfl rfl HNW.out HTO.out (by decide) HLB.out.1 HLB.out.2 hbz _ rfl ?_; intro g5 c5 w5 hown5 hgrow5 hat5 hlt5)
                all_goals
                  have HF := Lib.hid (And.intro hown5 (And.intro hgrow5 hat5))
                  clear hown5 hgrow5 hat5 x0 x1 x2 x3 v0 v1 v2 v3
                  go_wp2_with fail
                  go_roundw
                  case rel =>
                    obtain ⟨hown5, hgrow5, hat5⟩ := HF.out
                    have hal := HAL.out
                    obtain ⟨hML, hMp, hMo, hMm⟩ := HMM.out
                    refine ⟨k + 1, M ++ [⟨kx, A1, c1, ky, A2, c2⟩], by omega, by go_num, ?_, by rw [List.length_append, hML]; rfl, ?_, fun j hj => ?_, ?_, ?_, ?_⟩
                    · rw [← List.append_assoc]
                      exact WP.snoc HLN.out hown5
                    · rw [List.map_append, hMp, HZ2.out]; rfl
                    · rcases List.mem_append.1 hj with hj | hj
                      · exact hMo j hj
                      · simp at hj; subst hj; exact HJ.out
                    · rw [meas_app, hMm, HS2'.out]; show _ + (sizeE kx + 0) = _; omega
                    · exact (HSx.out.below hal).grow hgrow5 (HWM.out.apart' HSx.out)
                    · exact (HBx.out.trans (hal.mono HBx.out.size)).grown hgrow5 hbz (fun q e => (HWM.out.lt q e).1)
                  case measure => simp only [intOf]; omega
              · obtain rfl : k = nk := by omega
                clear hWM
                go_wp2_with fail
                rw [rounds_succ]
                go_wp2_with fail
                go_roundg (gk - 1)
                case measure => have h1 := HM.out; rw [meas_app] at h1; have h2 : meas [i] = sizeE i.x + 0 := rfl; have h3 := sizeE_pos i.x; omega
                case rel =>
                  have h1 := HM.out
                  rw [meas_app] at h1
                  have h2 : meas [i] = sizeE i.x + 0 := rfl
                  have h3 := sizeE_kids i.x
                  obtain ⟨hML, hMp, hMo, hMm⟩ := HMM.out
                  have h4 : i.x.kids.take k = i.x.kids := by rw [← HNK.out, List.take_length]
                  have h5 : (i.x.kids.zip i.y.kids).take k = i.x.kids.zip i.y.kids := by rw [List.take_of_length_le]; rw [List.length_zip, HNK.out]; omega
                  rw [h4] at hMm
                  rw [h5] at hMp
                  refine ⟨L' ++ M, _, S ++ [(i.x.kids, i.y.kids)], HWM.out, HSx.out, HK.out.snoc HNK.out.symm (HNK.out.trans HY.out) HCX.out HCY.out HSX.out HSY.out, fun j hj => ?_, ?_, HBx.out, ?_, by omega⟩
                  · rcases List.mem_append.1 hj with hj | hj
                    · exact HOK.out j (by simp [hj])
                    · exact hMo j hj
                  · rw [List.map_append, hMp]
                    exact Inv.miss (q := i.p) (by have h := HI.out; rw [List.map_append] at h; exact h) HZ.out
                  · rw [meas_app]; omega
set_option maxHeartbeats 1000000 in
theorem implSame_walk (a b : E) (A : Option Addr) (cap : Nat) (A' : Option Addr) (cap' : Nat) (w : World) (hR : PdS w (Between w 0 w.heap.size) a.kids A) (hR' : PdS w (Between w 0 w.heap.size) b.kids A') (hl : bulkE a ≤ 2000000) (hl' : bulkE b ≤ 2000000) :
    Calls Try.prog 7 #[exV a A cap, exV b A' cap'] w (BoolB (eqB a b) w) := by
  obtain ⟨⟨u0, u1, u2, u3⟩, ⟨v0, v1, v2, v3⟩, hlt, hb⟩ := two4 w (.int .i64 a.op) (.int .i64 a.n) (.string a.name) (.slice A a.kids.length cap) (.int .i64 b.op) (.int .i64 b.n) (.string b.name) (.slice A' b.kids.length cap') 29 29
  have ST := fun W (h : Below w.heap.size w W) => sameTrees_walk a b A cap A' cap' W (hR.later h (Nat.le_refl _) h.size) (hR'.later h (Nat.le_refl _) h.size) hl hl'
  unfold exV at *
  have ST := fun W h => Lib.hid (ST W h)
  clear hR hR' hl hl'
  go_enter Try.func7, Try.ntmps7
  go_wp2_with fail
  (with_reducible refine Calls.mono (ST _ hb).out ?_)
  rintro ee w1 ⟨rfl, hb1⟩
  have hb2 := hb.trans (hb1.mono hb.size)
  go_wp2_with fail
  go_ret
  exact ⟨rfl, hb2⟩
end Go.Proofs.Ytoepehlndljkoaa
