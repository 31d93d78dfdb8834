/-
  The program's comparison of two statements, with all in them.
-/
import Derived.Test.YtljdbjfbcjigaaaJC
namespace Go.Proofs.Ytljdbjfbcjigaaa
open Go.RowKit
set_option maxRecDepth 100000

theorem pairInfoT : (Try.prog.info? 62).map (fun i => (i.zero, i.size, i.bytes)) = some (some (.agg #[.int .i64 0, .string ⟨#[]⟩, .slice none 0 0, .slice none 0 0, .slice none 0 0, .int .i64 0, .string ⟨#[]⟩, .slice none 0 0, .slice none 0 0, .slice none 0 0]), 10, 192) := by kernel_rfl
open Classical in
theorem seen_yesT {w : World} {R : Nat} {K : List KP} (h : Seen w R K) (k : KP) (hk : k.flat w) (hf : ∀ x ∈ K, x.flat w) (hin : k ∈ K) :
    (Instr.lookup 64 (.map (some R)) k.v false).run Try.prog w = .ok (.bool true) w := by
  have := seen_askT h k hk hf
  rw [decide_eq_true hin] at this
  exact this
open Classical in
theorem seen_noT {w : World} {R : Nat} {K : List KP} (h : Seen w R K) (k : KP) (hk : k.flat w) (hf : ∀ x ∈ K, x.flat w) (hin : k ∉ K) :
    (Instr.lookup 64 (.map (some R)) k.v false).run Try.prog w = .ok (.bool false) w := by
  have := seen_askT h k hk hf
  rw [decide_eq_false hin] at this
  exact this
/-- Pairs that wait, in memory of the call's own. -/
def WPT (w : World) (base : Nat) (v : Value) (L : List Jt) : Prop := w.ownsRow base 62 10 v L.length (jtCells L)
theorem WPT.slice {w : World} {base : Nat} {v : Value} {L : List Jt} (h : WPT w base v L) : ∃ A cap, v = .slice A L.length cap := by
  rcases h.2 with ⟨rfl, h0⟩ | ⟨g, cap, cur, rfl, _⟩
  · exact ⟨none, 0, by rw [h0]⟩
  · exact ⟨_, cap, rfl⟩
theorem WPT.last {w : World} {base : Nat} {v : Value} {L : List Jt} {i : Jt} (h : WPT w base v (L ++ [i])) : ∃ g cap, v = .slice (some ⟨g, 0, none⟩) (L.length + 1) cap ∧ base ≤ g ∧ L.length + 1 ≤ cap ∧ g < w.heap.size ∧ (∀ j, j < 10 → w.cell? ⟨g, L.length * 10 + j, none⟩ = i.cells[j]?) ∧ WPT w base (.slice (some ⟨g, 0, none⟩) L.length cap) L := by
  rcases h with ⟨h1, ⟨rfl, h0⟩ | ⟨g, cap, cur, rfl, hg, hb, hn, hm, hs, ht⟩⟩
  · simp at h0
  · have hlt : g < w.heap.size := (Array.getElem?_eq_some_iff.1 hb).1
    have hl : (L ++ [i]).length = L.length + 1 := by simp
    rw [hl] at hn ht h1
    refine ⟨g, cap, by rw [hl], hg, hn, hlt, fun j hj => ?_, ?_⟩
    · rw [← jtCells_last L i j hj, ← ht, List.getElem?_take_of_lt (by omega)]
      unfold World.cell?
      simp [hb]
    · refine ⟨jtCells_length L, .inr ⟨g, cap, cur, rfl, hg, hb, by omega, hm, hs, ?_⟩⟩
      have := congrArg (List.take (L.length * 10)) ht
      rw [List.take_take, jtCells_app, List.take_left' (jtCells_length L)] at this
      rw [← this]
      congr 1
      omega
theorem WPT.below {w w' : World} {base : Nat} {v : Value} {L : List Jt} (h : WPT w base v L) (hb : Below w.heap.size w w') : WPT w' base v L := by
  rcases h with ⟨h1, h | ⟨g, cap, cur, e1, e2, e3, e4⟩⟩
  · exact ⟨h1, .inl h⟩
  · exact ⟨h1, .inr ⟨g, cap, cur, e1, e2, by rw [hb.block g (Array.getElem?_eq_some_iff.1 e3).1]; exact e3, e4⟩⟩
theorem WPT.apart {w : World} {base R g n cap : Nat} {L : List Jt} {K : List KP} (h : WPT w base (.slice (some ⟨g, 0, none⟩) n cap) L) (hs : Seen w R K) : g ≠ R := by
  obtain ⟨es, clock, h1, _⟩ := hs
  rcases h.2 with ⟨e, _⟩ | ⟨g', c', cur, e, _, h2, _⟩
  · cases e
  · injection e with e
    injection e with e
    injection e with e
    subst e
    intro e
    subst e
    rw [h2] at h1
    cases h1
theorem WPT.apart' {w : World} {base R : Nat} {v : Value} {L : List Jt} {K : List KP} (h : WPT w base v L) (hs : Seen w R K) : some R ≠ v.ownBlock := by
  intro e
  rcases h.2 with ⟨e1, _⟩ | ⟨g, c, cur, e1, _⟩
  · rw [e1] at e; cases e
  · have h' : WPT w base (.slice (some ⟨g, 0, none⟩) L.length c) L := by rw [← e1]; exact h
    rw [e1] at e
    injection e with e
    exact h'.apart hs e.symm
theorem WPT.lt {w : World} {base : Nat} {v : Value} {L : List Jt} (h : WPT w base v L) : ∀ k, v.ownBlock = some k → base ≤ k ∧ k < w.heap.size := World.ownsRow.lt h
theorem WPT.snoc {w : World} {base g c n : Nat} {L : List Jt} {i : Jt} (hn : L.length = n) (h : w.ownsRow base 62 10 (.slice (some ⟨g, 0, none⟩) (n + 1) c) (n + 1) (jtCells L ++ i.cells)) : WPT w base (.slice (some ⟨g, 0, none⟩) (n + 1) c) (L ++ [i]) := by
  unfold WPT
  rw [List.length_append, jtCells_app, hn]
  show w.ownsRow base _ 10 _ (n + 1) (jtCells L ++ (i.cells ++ []))
  rw [List.append_nil]
  exact h
theorem WPT.grow {w w' : World} {base : Nat} {v : Value} {L : List Jt} {R : Nat} (h : WPT w base v L) (hg : w.grownBy w' (some R)) (hne : v.ownBlock ≠ some R) : WPT w' base v L := World.ownsRow.kept h hg (.inr hne)
/-- The lists below a pair, as blocksOf has laid them; they are neither the set nor the row of pairs that wait. -/
structure KeepG (gA gB : Nat) (i : Jt) (R : Nat) (v : Value) (w : World) : Prop where
  a : ∀ k, k < 2 → w.cell? ⟨gA, k, none⟩ = some (.slice (i.x.ad k) (lstT i.x.t k).length (i.x.cp k))
  b : ∀ k, k < 2 → w.cell? ⟨gB, k, none⟩ = some (.slice (i.y.ad k) (lstT i.y.t k).length (i.y.cp k))
  la : gA < w.heap.size
  lb : gB < w.heap.size
  ra : gA ≠ R
  rb : gB ≠ R
  va : v.ownBlock ≠ some gA
  vb : v.ownBlock ≠ some gB
theorem KeepG.below {gA gB R : Nat} {i : Jt} {v : Value} {w w' : World} (h : KeepG gA gB i R v w) (hb : Below w.heap.size w w') : KeepG gA gB i R v w' :=
  ⟨fun k hk => (hb.cell (p := ⟨gA, k, none⟩) h.la).trans (h.a k hk), fun k hk => (hb.cell (p := ⟨gB, k, none⟩) h.lb).trans (h.b k hk), Nat.lt_of_lt_of_le h.la hb.size, Nat.lt_of_lt_of_le h.lb hb.size, h.ra, h.rb, h.va, h.vb⟩
theorem cell_grown {w w' : World} {row : Option Nat} {g k : Nat} (h : w.grownBy w' row) (hl : g < w.heap.size) (hne : some g ≠ row) : w'.cell? ⟨g, k, none⟩ = w.cell? ⟨g, k, none⟩ := World.cell?_of_block (h.block g hl hne)
theorem KeepG.set {gA gB R : Nat} {i : Jt} {v : Value} {w w' : World} (h : KeepG gA gB i R v w) (hg : w.grownBy w' (some R)) (hz : w.heap.size ≤ w'.heap.size) : KeepG gA gB i R v w' :=
  ⟨fun k hk => (cell_grown hg h.la (fun e => h.ra (by injection e))).trans (h.a k hk), fun k hk => (cell_grown hg h.lb (fun e => h.rb (by injection e))).trans (h.b k hk), Nat.lt_of_lt_of_le h.la hz, Nat.lt_of_lt_of_le h.lb hz, h.ra, h.rb, h.va, h.vb⟩
theorem KeepG.row {gA gB R g n c : Nat} {i : Jt} {v : Value} {w w' : World} (h : KeepG gA gB i R v w) (hg : w.grownBy w' v.ownBlock) (hz : w.heap.size ≤ w'.heap.size) (hat : v.ownBlock = some g ∨ g = w.heap.size) : KeepG gA gB i R (.slice (some ⟨g, 0, none⟩) n c) w' :=
  have ne : ∀ q, q < w.heap.size → v.ownBlock ≠ some q → (Value.slice (some ⟨g, 0, none⟩) n c).ownBlock ≠ some q := fun q hq hv e => by
    have e1 : g = q := by injection e
    rcases hat with h1 | h1
    · exact hv (by rw [h1, e1])
    · omega
  ⟨fun k hk => (cell_grown hg h.la (fun e => h.va e.symm)).trans (h.a k hk), fun k hk => (cell_grown hg h.lb (fun e => h.vb e.symm)).trans (h.b k hk), Nat.lt_of_lt_of_le h.la hz, Nat.lt_of_lt_of_le h.lb hz, h.ra, h.rb, ne gA h.la h.va, ne gB h.lb h.vb⟩
/-- What holds while the statements of two lists are laid down. -/
def InRelT (w : World) (R nk : Nat) (L : List Jt) (i : Jt) (kk gA gB : Nat) (K : List KP) (v c : Value) (wx : World) : Prop :=
  ∃ (k : Nat) (M : List Jt), k ≤ nk ∧ c = .int .i64 k ∧ WPT wx w.heap.size v (L ++ M) ∧ M.length = k ∧ M.map Jt.p = ((lstT i.x.t kk).zip (lstT i.y.t kk)).take k ∧ (∀ j ∈ M, j.x.ok w ∧ j.y.ok w) ∧ measJ M = sizeTL ((lstT i.x.t kk).take k) ∧ Seen wx R K ∧ Below w.heap.size w wx ∧ KeepG gA gB i R v wx
/-- What holds while the lists below a pair are seen to. -/
def MidRelT (w : World) (R : Nat) (L' : List Jt) (i : Jt) (S : List (List St × List St)) (gA gB : Nat) (v c : Value) (wx : World) : Prop :=
  ∃ (k : Nat) (M : List Jt) (K : List KP) (S2 : List (List St × List St)), k ≤ 2 ∧ c = .int .i64 k ∧ WPT wx w.heap.size v (L' ++ M) ∧ Seen wx R K ∧ KST w K S2 ∧ (∀ j ∈ M, j.x.ok w ∧ j.y.ok w) ∧ PartT i.p (L'.map Jt.p) S k ((L' ++ M).map Jt.p) S2 ∧ measJ M ≤ sumL i.x.t k ∧ Below w.heap.size w wx ∧ KeepG gA gB i R v wx
/-- What holds while pairs wait. -/
def SameRelT (a b : St) (w : World) (R : Nat) (gk : Nat) (v : Value) (wr : World) : Prop :=
  ∃ (L : List Jt) (K : List KP) (S : List (List St × List St)), WPT wr w.heap.size v L ∧ Seen wr R K ∧ KST w K S ∧ (∀ i ∈ L, i.x.ok w ∧ i.y.ok w) ∧ InvT a b (L.map Jt.p) S ∧ Below w.heap.size w wr ∧ measJ L ≤ gk ∧ gk ≤ 2000001
theorem ten_start (w : World) (o1 o2 : Obj) (i : Jt) (hx : i.x.ok w) (hy : i.y.ok w) : SameRelT i.x.t i.y.t w (w.heap.size + 1 + 1 + 1) (sizeT i.x.t) (.slice (some ⟨w.heap.size + 1 + 1, 0, none⟩) 1 1)
    ((((w.alloc o1).alloc o2).alloc (.cells i.cells.toArray 62)).alloc (.map #[] 0)) := by
  have s1 : (w.alloc o1).heap.size = w.heap.size + 1 := World.size_alloc _ _
  have s2 : ((w.alloc o1).alloc o2).heap.size = w.heap.size + 1 + 1 := by rw [World.size_alloc, s1]
  have s3 : (((w.alloc o1).alloc o2).alloc (.cells i.cells.toArray 62)).heap.size = w.heap.size + 1 + 1 + 1 := by rw [World.size_alloc, s2]
  have hb := ((((Below.refl w.heap.size w).alloc (Nat.le_refl _) o1).alloc (by rw [s1]; omega) o2).alloc (by rw [s2]; omega) (.cells i.cells.toArray 62)).alloc (by rw [s3]; omega) (.map #[] 0)
  refine ⟨[i], [], [], ?_, ?_, .nil, ?_, InvT.start _ _, hb, ?_, hx.sz⟩
  · refine ⟨rfl, .inr ⟨w.heap.size + 1 + 1, 1, i.cells.toArray, rfl, by omega, ?_, by simp, by unfold maxLen; omega, rfl, ?_⟩⟩
    · rw [heap_alloc_old _ _ (by rw [s3]; omega)]
      have := heap_alloc_new ((w.alloc o1).alloc o2) (.cells i.cells.toArray 62)
      rw [s2] at this
      exact this
    · rfl
  · refine ⟨#[], 0, ?_, rfl, fun e he => by simp at he⟩
    have := heap_alloc_new (((w.alloc o1).alloc o2).alloc (.cells i.cells.toArray 62)) (.map #[] 0)
    rw [s3] at this
    exact this
  · intro j hj; simp at hj; subst hj; exact ⟨hx, hy⟩
  · show sizeT i.x.t + 0 ≤ _; omega
theorem new_cellsT (w : World) (l : List Value) (t : TypeId) : ∀ (j : Nat) u, l[j]? = some u → (w.alloc (.cells l.toArray t)).drew.cell? ((⟨w.heap.size, 0, none⟩ : Addr).add j) = some u := by
  intro j u hu
  have e1 : (⟨w.heap.size, 0, none⟩ : Addr).add j = ⟨w.heap.size, j, none⟩ := by
    unfold Addr.add
    by_cases hj : j = 0
    · rw [if_pos hj, hj]
    · rw [if_neg hj, Nat.zero_add]
  rw [e1]
  have h0 : (w.alloc (.cells l.toArray t)).drew.cell? ⟨w.heap.size, j, none⟩ = l.toArray[j]? := alloc_cell w _ _ (0, 0) j
  rw [h0, ← hu, ← List.getElem?_toArray]
theorem ten_one (kx ky : St) (E1 E2 E3 F1 F2 F3 : Option Addr) (e1 e2 e3 f1 f2 f3 : Nat) : ∀ u ∈ ([.int .i64 kx.op, .string kx.name, .slice E1 kx.args.length e1, .slice E2 kx.body.length e2, .slice E3 kx.els.length e3, .int .i64 ky.op, .string ky.name, .slice F1 ky.args.length f1, .slice F2 ky.body.length f2, .slice F3 ky.els.length f3] : List Value), u.oneCell' = true := by
  intro u hu
  simp only [List.mem_cons, List.not_mem_nil, or_false] at hu
  rcases hu with rfl | rfl | rfl | rfl | rfl | rfl | rfl | rfl | rfl | rfl <;> rfl
set_option maxHeartbeats 8000000 in
theorem sameTreesT_walk (x y : Sp) (w : World) (hx : x.ok w) (hy : y.ok w) :
    Calls Try.prog 20 #[.agg x.cells.toArray, .agg y.cells.toArray, .func (.func 21) #[] #[], .func (.func 22) #[] #[]] w (BoolB (sameTB x.t y.t) w) := by
  have ST := fun o1 o2 => Lib.hid (ten_start w o1 o2 ⟨x, y⟩ hx hy)
  unfold Jt.cells Sp.cells at ST
  dsimp only [List.cons_append, List.nil_append] at ST
  unfold Sp.cells
  clear hx hy
  have hmm := @run_makeMap Try.prog
  go_enter Try.func20, Try.ntmps20
  go_wp2_with fail
  clear hmm
  go_loopg [9] (sizeT x.t) (fun gk v wr => SameRelT x.t y.t w (w.heap.size + 1 + 1 + 1) gk v wr)
  case atStart => exact (ST _ _).out
  case round =>
    clear ST
    obtain ⟨L, K, S, hW, hS, hK, hok, hI, hB, hm, hg⟩ := hrel
    rcases List.eq_nil_or_concat L with rfl | ⟨L', i, rfl⟩
    · obtain ⟨A0, c0, rfl⟩ := hW.slice
      have HI := Lib.hid hI.done
      clear hW hS hK hok hI hm hg
      go_wp2_with fail
      go_ret
      exact ⟨ret_bool (by rw [HI.out, sameTB_yes]), hB⟩
    · rw [List.concat_eq_append] at *
      have HM := Lib.hid hm
      rw [measJ_app] at hm
      have hlen := measJ_len L'
      obtain ⟨g, c0, rfl, hg0, hcap, hgl, hcell, hW'⟩ := hW.last
      have HW := Lib.hid hW'
      have HS := Lib.hid hS
      have HK := Lib.hid hK
      have HOK := Lib.hid hok
      have HI := Lib.hid hI
      have HB := Lib.hid hB
      have HRL := Lib.hid hS.lt
      clear hW hW' hS hK hok hI hB
      have hml : L'.length ≤ 2000001 := by omega
      have d0 := hcell 0 (by omega)
      have d1 := hcell 1 (by omega)
      have d2 := hcell 2 (by omega)
      have d3 := hcell 3 (by omega)
      have d4 := hcell 4 (by omega)
      have d5 := hcell 5 (by omega)
      have d6 := hcell 6 (by omega)
      have d7 := hcell 7 (by omega)
      have d8 := hcell 8 (by omega)
      have d9 := hcell 9 (by omega)
      clear hcell
      unfold Jt.cells Sp.cells at d0 d1 d2 d3 d4 d5 d6 d7 d8 d9
      rw [Nat.add_zero] at d0
      simp only [List.cons_append, List.nil_append, List.getElem?_cons_zero, List.getElem?_cons_succ] at d0 d1 d2 d3 d4 d5 d6 d7 d8 d9
      generalize hm' : L'.length = m at *
      have HML := Lib.hid hm'
      have hoi : i.x.ok w ∧ i.y.ok w := HOK.out i (by simp)
      have SB := fun W (h : Below w.heap.size w W) => sameBesideT_any i.x i.y W (hoi.1.pa.later h (Nat.le_refl _) h.size) (hoi.2.pa.later h (Nat.le_refl _) h.size) hoi.1.ba hoi.2.ba
      have HO := Lib.hid hoi
      unfold Sp.cells at SB
      clear hm' hm hlen hoi
      go_wp2_with fail
      have hbn := (Below.refl wr.heap.size wr).alloc (Nat.le_refl _) (.cells #[.int .i64 i.x.t.op, .string i.x.t.name, .slice i.x.A1 i.x.t.args.length i.x.c1, .slice i.x.A2 i.x.t.body.length i.x.c2, .slice i.x.A3 i.x.t.els.length i.x.c3, .int .i64 i.y.t.op, .string i.y.t.name, .slice i.y.A1 i.y.t.args.length i.y.c1, .slice i.y.A2 i.y.t.body.length i.y.c2, .slice i.y.A3 i.y.t.els.length i.y.c3] 62)
      have n0 := alloc_cell wr #[.int .i64 i.x.t.op, .string i.x.t.name, .slice i.x.A1 i.x.t.args.length i.x.c1, .slice i.x.A2 i.x.t.body.length i.x.c2, .slice i.x.A3 i.x.t.els.length i.x.c3, .int .i64 i.y.t.op, .string i.y.t.name, .slice i.y.A1 i.y.t.args.length i.y.c1, .slice i.y.A2 i.y.t.body.length i.y.c2, .slice i.y.A3 i.y.t.els.length i.y.c3] 62 (0, 0) 0
      have n1 := alloc_cell wr #[.int .i64 i.x.t.op, .string i.x.t.name, .slice i.x.A1 i.x.t.args.length i.x.c1, .slice i.x.A2 i.x.t.body.length i.x.c2, .slice i.x.A3 i.x.t.els.length i.x.c3, .int .i64 i.y.t.op, .string i.y.t.name, .slice i.y.A1 i.y.t.args.length i.y.c1, .slice i.y.A2 i.y.t.body.length i.y.c2, .slice i.y.A3 i.y.t.els.length i.y.c3] 62 (0, 0) 1
      have n2 := alloc_cell wr #[.int .i64 i.x.t.op, .string i.x.t.name, .slice i.x.A1 i.x.t.args.length i.x.c1, .slice i.x.A2 i.x.t.body.length i.x.c2, .slice i.x.A3 i.x.t.els.length i.x.c3, .int .i64 i.y.t.op, .string i.y.t.name, .slice i.y.A1 i.y.t.args.length i.y.c1, .slice i.y.A2 i.y.t.body.length i.y.c2, .slice i.y.A3 i.y.t.els.length i.y.c3] 62 (0, 0) 2
      have n3 := alloc_cell wr #[.int .i64 i.x.t.op, .string i.x.t.name, .slice i.x.A1 i.x.t.args.length i.x.c1, .slice i.x.A2 i.x.t.body.length i.x.c2, .slice i.x.A3 i.x.t.els.length i.x.c3, .int .i64 i.y.t.op, .string i.y.t.name, .slice i.y.A1 i.y.t.args.length i.y.c1, .slice i.y.A2 i.y.t.body.length i.y.c2, .slice i.y.A3 i.y.t.els.length i.y.c3] 62 (0, 0) 3
      have n4 := alloc_cell wr #[.int .i64 i.x.t.op, .string i.x.t.name, .slice i.x.A1 i.x.t.args.length i.x.c1, .slice i.x.A2 i.x.t.body.length i.x.c2, .slice i.x.A3 i.x.t.els.length i.x.c3, .int .i64 i.y.t.op, .string i.y.t.name, .slice i.y.A1 i.y.t.args.length i.y.c1, .slice i.y.A2 i.y.t.body.length i.y.c2, .slice i.y.A3 i.y.t.els.length i.y.c3] 62 (0, 0) 4
      have n5 := alloc_cell wr #[.int .i64 i.x.t.op, .string i.x.t.name, .slice i.x.A1 i.x.t.args.length i.x.c1, .slice i.x.A2 i.x.t.body.length i.x.c2, .slice i.x.A3 i.x.t.els.length i.x.c3, .int .i64 i.y.t.op, .string i.y.t.name, .slice i.y.A1 i.y.t.args.length i.y.c1, .slice i.y.A2 i.y.t.body.length i.y.c2, .slice i.y.A3 i.y.t.els.length i.y.c3] 62 (0, 0) 5
      have n6 := alloc_cell wr #[.int .i64 i.x.t.op, .string i.x.t.name, .slice i.x.A1 i.x.t.args.length i.x.c1, .slice i.x.A2 i.x.t.body.length i.x.c2, .slice i.x.A3 i.x.t.els.length i.x.c3, .int .i64 i.y.t.op, .string i.y.t.name, .slice i.y.A1 i.y.t.args.length i.y.c1, .slice i.y.A2 i.y.t.body.length i.y.c2, .slice i.y.A3 i.y.t.els.length i.y.c3] 62 (0, 0) 6
      have n7 := alloc_cell wr #[.int .i64 i.x.t.op, .string i.x.t.name, .slice i.x.A1 i.x.t.args.length i.x.c1, .slice i.x.A2 i.x.t.body.length i.x.c2, .slice i.x.A3 i.x.t.els.length i.x.c3, .int .i64 i.y.t.op, .string i.y.t.name, .slice i.y.A1 i.y.t.args.length i.y.c1, .slice i.y.A2 i.y.t.body.length i.y.c2, .slice i.y.A3 i.y.t.els.length i.y.c3] 62 (0, 0) 7
      have n8 := alloc_cell wr #[.int .i64 i.x.t.op, .string i.x.t.name, .slice i.x.A1 i.x.t.args.length i.x.c1, .slice i.x.A2 i.x.t.body.length i.x.c2, .slice i.x.A3 i.x.t.els.length i.x.c3, .int .i64 i.y.t.op, .string i.y.t.name, .slice i.y.A1 i.y.t.args.length i.y.c1, .slice i.y.A2 i.y.t.body.length i.y.c2, .slice i.y.A3 i.y.t.els.length i.y.c3] 62 (0, 0) 8
      have n9 := alloc_cell wr #[.int .i64 i.x.t.op, .string i.x.t.name, .slice i.x.A1 i.x.t.args.length i.x.c1, .slice i.x.A2 i.x.t.body.length i.x.c2, .slice i.x.A3 i.x.t.els.length i.x.c3, .int .i64 i.y.t.op, .string i.y.t.name, .slice i.y.A1 i.y.t.args.length i.y.c1, .slice i.y.A2 i.y.t.body.length i.y.c2, .slice i.y.A3 i.y.t.els.length i.y.c3] 62 (0, 0) 9
      have hln : wr.heap.size < (wr.alloc (.cells #[.int .i64 i.x.t.op, .string i.x.t.name, .slice i.x.A1 i.x.t.args.length i.x.c1, .slice i.x.A2 i.x.t.body.length i.x.c2, .slice i.x.A3 i.x.t.els.length i.x.c3, .int .i64 i.y.t.op, .string i.y.t.name, .slice i.y.A1 i.y.t.args.length i.y.c1, .slice i.y.A2 i.y.t.body.length i.y.c2, .slice i.y.A3 i.y.t.els.length i.y.c3] 62)).heap.size := by rw [World.size_alloc]; omega
      generalize wr.alloc (.cells #[.int .i64 i.x.t.op, .string i.x.t.name, .slice i.x.A1 i.x.t.args.length i.x.c1, .slice i.x.A2 i.x.t.body.length i.x.c2, .slice i.x.A3 i.x.t.els.length i.x.c3, .int .i64 i.y.t.op, .string i.y.t.name, .slice i.y.A1 i.y.t.args.length i.y.c1, .slice i.y.A2 i.y.t.body.length i.y.c2, .slice i.y.A3 i.y.t.els.length i.y.c3] 62) = wn at *
      have SB1 := Lib.hid (SB wn (HB.out.trans (hbn.mono HB.out.size)))
      clear SB d0 d1 d2 d3 d4 d5 d6 d7 d8 d9
      (with_reducible refine Calls.mono SB1.out ?_)
      rintro ee w1 ⟨rfl, hb1⟩
      have hb2 := hbn.trans (hb1.mono hbn.size)
      have hl1 := Nat.lt_of_lt_of_le hln hb1.size
      have k0 := (hb1.cell (p := ⟨wr.heap.size, 0, none⟩) hln).trans n0
      have k1 := (hb1.cell (p := ⟨wr.heap.size, 1, none⟩) hln).trans n1
      have k2 := (hb1.cell (p := ⟨wr.heap.size, 2, none⟩) hln).trans n2
      have k3 := (hb1.cell (p := ⟨wr.heap.size, 3, none⟩) hln).trans n3
      have k4 := (hb1.cell (p := ⟨wr.heap.size, 4, none⟩) hln).trans n4
      have k5 := (hb1.cell (p := ⟨wr.heap.size, 5, none⟩) hln).trans n5
      have k6 := (hb1.cell (p := ⟨wr.heap.size, 6, none⟩) hln).trans n6
      have k7 := (hb1.cell (p := ⟨wr.heap.size, 7, none⟩) hln).trans n7
      have k8 := (hb1.cell (p := ⟨wr.heap.size, 8, none⟩) hln).trans n8
      have k9 := (hb1.cell (p := ⟨wr.heap.size, 9, none⟩) hln).trans n9
      clear SB1 n0 n1 n2 n3 n4 n5 n6 n7 n8 n9 hbn hb1 hln
      have hBw : Below w.heap.size w w1 := HB.out.trans (hb2.mono HB.out.size)
      cases hz : besT i.x.t i.y.t
      · have HE := Lib.hid (show sameTB x.t y.t = false from sameTB_no (InvT.no (q := i.p) (by have h := HI.out; rw [List.map_append] at h; exact h) hz))
        clear hz
        go_wp2_with fail
        go_ret
        exact ⟨ret_bool HE.out.symm, hBw⟩
      · have HZ := Lib.hid hz
        clear hz
        have LB0 := blocksOf_any i.y w1
        unfold Sp.cells at LB0
        have LB := Lib.hid LB0
        clear LB0
        go_wp2_with fail
        (with_reducible refine Calls.mono LB.out ?_)
        rintro ee wb ⟨gB, hgB, rfl, lB, hlB, hbb⟩
        have m0 := (hbb.cell (p := ⟨wr.heap.size, 0, none⟩) hl1).trans k0
        have m1 := (hbb.cell (p := ⟨wr.heap.size, 1, none⟩) hl1).trans k1
        have m2 := (hbb.cell (p := ⟨wr.heap.size, 2, none⟩) hl1).trans k2
        have m3 := (hbb.cell (p := ⟨wr.heap.size, 3, none⟩) hl1).trans k3
        have m4 := (hbb.cell (p := ⟨wr.heap.size, 4, none⟩) hl1).trans k4
        have hlb := Nat.lt_of_lt_of_le hl1 hbb.size
        have LA0 := blocksOf_any i.x wb
        unfold Sp.cells at LA0
        have LA := Lib.hid LA0
        have HLB := Lib.hid lB
        clear LB LA0 k0 k1 k2 k3 k4 k5 k6 k7 k8 k9 lB
        go_wp2_with fail
        (with_reducible refine Calls.mono LA.out ?_)
        rintro ee wa ⟨gA, hgA, rfl, lA, hlA, hba⟩
        have hb1a := hbb.trans (hba.mono hbb.size)
        have hb2a := hb2.trans (hb1a.mono hb2.size)
        have hBwa : Below w.heap.size w wa := hBw.trans (hb1a.mono hBw.size)
        have hs12 := hb2.size
        have hsb := hbb.size
        have hrl := HRL.out
        have KG := Lib.hid (show KeepG gA gB i (w.heap.size + 1 + 1 + 1) (.slice (some ⟨g, 0, none⟩) m c0) wa from ⟨lA, fun k hk => (hba.cell (p := ⟨gB, k, none⟩) hlB).trans (HLB.out k hk), hlA, Nat.lt_of_lt_of_le hlB hba.size, by omega, by omega, fun e => (show g ≠ gA by omega) (by injection e), fun e => (show g ≠ gB by omega) (by injection e)⟩)
        have MR0 := Lib.hid (show MidRelT w (w.heap.size + 1 + 1 + 1) L' i S gA gB (.slice (some ⟨g, 0, none⟩) m c0) (.int .i64 ((0 : Nat) : Int)) wa from
          ⟨0, [], K, S, by omega, rfl, by rw [List.append_nil]; exact HW.out.below hb2a, HS.out.below hb2a, HK.out, (fun j hj => by cases hj), by rw [List.append_nil]; exact PartT.start _ _ _, Nat.le_refl _, hBwa, KG.out⟩)
        clear LA m0 m1 m2 m3 m4 hlB hlA hba hbb hlb hb2 hBw hl1 hb1a hb2a lA HLB KG hgA hgB hs12 hsb hrl HW HS HK hBwa
        go_wp2_with fail
        go_loopw [9, 53] (fun v c wx => MidRelT w (w.heap.size + 1 + 1 + 1) L' i S gA gB v c wx) (fun _ c _ => 2 - (intOf c).toNat)
        case atStart => exact MR0.out
        case round =>
          clear MR0
          obtain ⟨k, M, K1, S2, hk, rfl, hWM, hSx, hKx, hMo, hPt, hMm, hBx, hG⟩ := hrel
          have hsum := sumL_le i.x.t hk
          have hLMm : measJ (L' ++ M) ≤ 2000001 := by
            have h1 := HM.out
            rw [measJ_app] at h1
            have h2 : measJ [i] = sizeT i.x.t + 0 := rfl
            rw [measJ_app]
            omega
          obtain ⟨Av, cv, rfl⟩ := hWM.slice
          have HWM := Lib.hid hWM
          have HSx := Lib.hid hSx
          have HKx := Lib.hid hKx
          have HMo := Lib.hid hMo
          have HPt := Lib.hid hPt
          have HMm := Lib.hid hMm
          have HBx := Lib.hid hBx
          have HG := Lib.hid hG
          have hml2 := measJ_len (L' ++ M)
          generalize hLM : L' ++ M = LM at *
          have HLM := Lib.hid hLM
          generalize hm2 : LM.length = m2 at *
          have HM2 := Lib.hid hm2
          have hm2b : m2 ≤ 2000001 := by omega
          clear hWM hSx hKx hMo hPt hMm hLM hm2 hml2 hLMm hsum
          by_cases hk2 : k < 2
          · have hk2' : (k : Int) < 2 := by omega
            have lA := hG.a k hk2
            have lB := hG.b k hk2
            clear hG
            have hnx : (lstT i.x.t k).length ≤ 2000001 := by have h1 := length_le_sizeTL (lstT i.x.t k); have h2 := (lst_size i.x.t hk2).2; have h3 := HO.out.1.sz; omega
            have hny : (lstT i.y.t k).length ≤ 2000001 := by have h1 := length_le_sizeTL (lstT i.y.t k); have h2 := (lst_size i.y.t hk2).2; have h3 := HO.out.2.sz; omega
            by_cases hlen : (lstT i.x.t k).length = (lstT i.y.t k).length
            case neg =>
              have HE := Lib.hid (show sameTB x.t y.t = false from sameTB_no (InvT.nolen (q := i.p) (k := k) (by have h := HI.out; rw [List.map_append] at h; exact h) hlen))
              have qne : (((lstT i.x.t k).length : Int) != ((lstT i.y.t k).length : Int)) = true := by rw [bne, beq_no (by omega)]; rfl
              generalize (lstT i.x.t k).length = nx at *
              generalize (lstT i.y.t k).length = ny at *
              clear hlen
              go_wp2_with fail
              go_ret
              exact ⟨ret_bool HE.out.symm, HBx.out⟩
            rw [← hlen] at lB
            have HY := Lib.hid hlen
            clear hlen hny
            by_cases hkx : lstT i.x.t k = []
            · have HX := Lib.hid hkx
              have hl0 : (lstT i.x.t k).length = 0 := by rw [hkx]; rfl
              generalize hnk : (lstT i.x.t k).length = nk at *
              have HNK := Lib.hid hnk
              have qnn : ((nk : Int) != (nk : Int)) = false := by simp
              have q0 : ((nk : Int) == 0) = true := beq_yes (by omega)
              clear hkx hnk hl0
              go_wp2_with fail
              go_roundw
              case rel =>
                have hY : lstT i.y.t k = [] := List.length_eq_zero_iff.1 (by rw [← HY.out, ← HNK.out, HX.out]; rfl)
                exact ⟨k + 1, M, K1, S2, by omega, by go_num, by rw [HLM.out]; exact HWM.out, HSx.out, HKx.out, HMo.out, by rw [HLM.out]; exact HPt.out.hit (.inl ⟨HX.out, hY⟩), by rw [sumL_next _ hk2]; have := HMm.out; omega, HBx.out, HG.out⟩
              case measure => simp only [intOf]; omega
            · have hne : lstT i.x.t k ≠ [] := hkx
              clear hkx
              have hne' : lstT i.y.t k ≠ [] := by intro e; have h := HY.out; rw [e] at h; exact hne (List.length_eq_zero_iff.1 h)
              obtain ⟨bx, ox, eA, hSx, hCx⟩ := (HO.out.1.pl k).resolve_left hne
              obtain ⟨by_, oy, eB, hSy, hCy⟩ := (HO.out.2.pl k).resolve_left hne'
              rw [eA] at lA
              rw [eB] at lB
              have hpos : 0 < (lstT i.x.t k).length := List.length_pos_iff.2 hne
              have HCX := Lib.hid hCx
              have HCY := Lib.hid hCy
              have HSX := Lib.hid hSx
              have HSY := Lib.hid hSy
              clear hne hne' eA eB hCx hCy hSx hSy
              generalize hnk : (lstT i.x.t k).length = nk at *
              have HNK := Lib.hid hnk
              clear hnk
              have qnn : ((nk : Int) != (nk : Int)) = false := by simp
              have q0 : ((nk : Int) == 0) = false := beq_no (by omega)
              go_wp2_with fail
              go_region
              have hb12 := ((Below.refl wr.heap.size wr).alloc (Nat.le_refl _) (.cells #[.pointer (some ⟨bx, ox, none⟩), .pointer (some ⟨by_, oy, none⟩), .int .i64 (nk : Int)] 68)).drew
              have y0 : (wr.alloc (.cells #[.pointer (some ⟨bx, ox, none⟩), .pointer (some ⟨by_, oy, none⟩), .int .i64 (nk : Int)] 68)).drew.cell? ⟨wr.heap.size, 0, none⟩ = some (.pointer (some ⟨bx, ox, none⟩)) := alloc_cell wr _ _ (0, 0) 0
              have y1 : (wr.alloc (.cells #[.pointer (some ⟨bx, ox, none⟩), .pointer (some ⟨by_, oy, none⟩), .int .i64 (nk : Int)] 68)).drew.cell? ⟨wr.heap.size, 1, none⟩ = some (.pointer (some ⟨by_, oy, none⟩)) := alloc_cell wr _ _ (0, 0) 1
              have y2 : (wr.alloc (.cells #[.pointer (some ⟨bx, ox, none⟩), .pointer (some ⟨by_, oy, none⟩), .int .i64 (nk : Int)] 68)).drew.cell? ⟨wr.heap.size, 2, none⟩ = some (.int .i64 (nk : Int)) := alloc_cell wr _ _ (0, 0) 2
              generalize (wr.alloc (.cells #[.pointer (some ⟨bx, ox, none⟩), .pointer (some ⟨by_, oy, none⟩), .int .i64 (nk : Int)] 68)).drew = w2 at *
              have hBw2 : Below w.heap.size w w2 := HBx.out.trans (hb12.mono HBx.out.size)
              have hKF : KP.flat ⟨bx, ox, by_, oy, nk⟩ w2 := ⟨HSX.out.2.2.below hBw2 HSX.out.2.1, HSY.out.2.2.below hBw2 HSY.out.2.1⟩
              have HS2 := Lib.hid (HSx.out.below hb12)
              have HW2 := Lib.hid (HWM.out.below hb12)
              have HG2 := Lib.hid (HG.out.below hb12)
              have HKF := Lib.hid hKF
              clear lA lB hb12 hKF qnn
              by_cases hin : (⟨bx, ox, by_, oy, nk⟩ : KP) ∈ K1
              · have ASK := seen_yesT HS2.out ⟨bx, ox, by_, oy, nk⟩ HKF.out (HKx.out.flat hBw2) hin
                unfold KP.v at ASK
                dsimp only at ASK
                have HIN := Lib.hid (HKx.out.find hin HNK.out.symm (HNK.out.trans HY.out) HCX.out HCY.out)
                clear hin
                go_wp2_with fail
                go_roundw
                case rel => exact ⟨k + 1, M, K1, S2, by omega, by go_num, by rw [HLM.out]; exact HW2.out, HS2.out, HKx.out, HMo.out, by rw [HLM.out]; exact HPt.out.hit (.inr HIN.out), by rw [sumL_next _ hk2]; have := HMm.out; omega, hBw2, HG2.out⟩
                case measure => simp only [intOf]; omega
              · have ASK := seen_noT HS2.out ⟨bx, ox, by_, oy, nk⟩ HKF.out (HKx.out.flat hBw2) hin
                unfold KP.v at ASK
                dsimp only at ASK
                obtain ⟨w3, hrun, hS3, hg3, hz3⟩ := seen_addT HS2.out ⟨bx, ox, by_, oy, nk⟩ HKF.out (HKx.out.flat hBw2) hin
                unfold KP.v at hrun
                dsimp only at hrun
                clear hin
                have HS3 := Lib.hid hS3
                have HG3 := Lib.hid hg3
                clear hS3 hg3
                have IR0 := Lib.hid (show InRelT w (w.heap.size + 1 + 1 + 1) nk LM i k gA gB (K1 ++ [⟨bx, ox, by_, oy, nk⟩]) (.slice Av m2 cv) (.int .i64 ((0 : Nat) : Int)) w3 from
                  ⟨0, [], Nat.zero_le _, rfl, by rw [List.append_nil]; exact HW2.out.grow HG3.out (fun e => HW2.out.apart' HS2.out e.symm), rfl, rfl, (fun j hj => by cases hj), rfl, HS3.out, hBw2.grown HG3.out hBw2.size (fun q e => by cases e; omega), HG2.out.set HG3.out (by omega)⟩)
                have hnkb : nk ≤ 2000001 := hnx
                go_wp2_with fail
                go_loopw [9, 84] (fun v c wx => InRelT w (w.heap.size + 1 + 1 + 1) nk LM i k gA gB (K1 ++ [⟨bx, ox, by_, oy, nk⟩]) v c wx) (fun _ c _ => nk - (intOf c).toNat)
                case atStart => exact IR0.out
                case round =>
                  clear IR0 ASK hrun hBw2 y0 y1 y2
                  obtain ⟨q, Mi, hq, rfl, hWi, hMl, hMp, hMok, hMms, hSi, hBi, hGi⟩ := hrel
                  obtain ⟨Ai, ci, rfl⟩ := hWi.slice
                  have hln : (LM ++ Mi).length = m2 + q := by rw [List.length_append, HM2.out, hMl]
                  rw [hln] at hWi hGi ⊢
                  have HWi := Lib.hid hWi
                  have HMM := Lib.hid (And.intro hMl (And.intro hMp (And.intro hMok hMms)))
                  have HSi := Lib.hid hSi
                  have HBi := Lib.hid hBi
                  have HGi := Lib.hid hGi
                  have HLN := Lib.hid hln
                  clear hWi hMl hMp hMok hMms hSi hBi hGi hln
                  by_cases hlt : q < nk
                  · have hkx : q < (lstT i.x.t k).length := by rw [HNK.out]; exact hlt
                    have hky : q < (lstT i.y.t k).length := by rw [← HY.out]; exact hlt
                    obtain ⟨⟨x0, x1⟩, ⟨E1, e1, x2, px1⟩, ⟨E2, e2, x3, px2⟩, E3, e3, x4, px3⟩ := HCX.out.get hkx
                    obtain ⟨⟨v0, v1⟩, ⟨F1, f1, v2, py1⟩, ⟨F2, f2, v3, py2⟩, F3, f3, v4, py3⟩ := HCY.out.get hky
                    have hj1 : (⟨(lstT i.x.t k)[q], E1, e1, E2, e2, E3, e3⟩ : Sp).ok w := HO.out.1.kid hkx px1 px2 px3
                    have hj2 : (⟨(lstT i.y.t k)[q], F1, f1, F2, f2, F3, f3⟩ : Sp).ok w := HO.out.2.kid hky py1 py2 py3
                    have hz : (((lstT i.x.t k).zip (lstT i.y.t k)).take (q + 1)) = ((lstT i.x.t k).zip (lstT i.y.t k)).take q ++ [((lstT i.x.t k)[q], (lstT i.y.t k)[q])] := by rw [List.take_succ_eq_append_getElem (by rw [List.length_zip]; omega), List.getElem_zip]
                    have hs := sizeTL_take hkx
                    have HJ := Lib.hid (And.intro hj1 hj2)
                    have HZ2 := Lib.hid hz
                    have HS2' := Lib.hid hs
                    replace x0 := (HBi.out.cell (p := ⟨bx, ox + q * 5, none⟩) HSX.out.2.1).trans x0
                    replace x1 := (HBi.out.cell (p := ⟨bx, ox + q * 5 + 1, none⟩) HSX.out.2.1).trans x1
                    replace x2 := (HBi.out.cell (p := ⟨bx, ox + q * 5 + 2, none⟩) HSX.out.2.1).trans x2
                    replace x3 := (HBi.out.cell (p := ⟨bx, ox + q * 5 + 3, none⟩) HSX.out.2.1).trans x3
                    replace x4 := (HBi.out.cell (p := ⟨bx, ox + q * 5 + 4, none⟩) HSX.out.2.1).trans x4
                    replace v0 := (HBi.out.cell (p := ⟨by_, oy + q * 5, none⟩) HSY.out.2.1).trans v0
                    replace v1 := (HBi.out.cell (p := ⟨by_, oy + q * 5 + 1, none⟩) HSY.out.2.1).trans v1
                    replace v2 := (HBi.out.cell (p := ⟨by_, oy + q * 5 + 2, none⟩) HSY.out.2.1).trans v2
                    replace v3 := (HBi.out.cell (p := ⟨by_, oy + q * 5 + 3, none⟩) HSY.out.2.1).trans v3
                    replace v4 := (HBi.out.cell (p := ⟨by_, oy + q * 5 + 4, none⟩) HSY.out.2.1).trans v4
                    clear px1 px2 px3 py1 py2 py3 hj1 hj2 hz hs
                    generalize (lstT i.x.t k)[q] = kx at *
                    generalize (lstT i.y.t k)[q] = ky at *
                    clear hkx hky
                    go_wp2_with fail
                    obtain ⟨i0, hi, hz0, hz1, hz2⟩ := info_parts pairInfoT
                    have hw0 : wr.ownsRow w.heap.size 62 10 (.slice Ai (m2 + q) ci) (m2 + q) (jtCells (LM ++ Mi)) := by have h := HWi.out; unfold WPT at h; rw [HLN.out] at h; exact h
                    have HOW := Lib.hid (World.ownsRow.drew (World.ownsRow.alloc hw0 (.cells #[.int .i64 kx.op, .string kx.name, .slice E1 kx.args.length e1, .slice E2 kx.body.length e2, .slice E3 kx.els.length e3, .int .i64 ky.op, .string ky.name, .slice F1 ky.args.length f1, .slice F2 ky.body.length f2, .slice F3 ky.els.length f3] 62)))
                    have HNW := Lib.hid (show ∀ (j : Nat) u, ([.int .i64 kx.op, .string kx.name, .slice E1 kx.args.length e1, .slice E2 kx.body.length e2, .slice E3 kx.els.length e3, .int .i64 ky.op, .string ky.name, .slice F1 ky.args.length f1, .slice F2 ky.body.length f2, .slice F3 ky.els.length f3] : List Value)[j]? = some u → (wr.alloc (.cells #[.int .i64 kx.op, .string kx.name, .slice E1 kx.args.length e1, .slice E2 kx.body.length e2, .slice E3 kx.els.length e3, .int .i64 ky.op, .string ky.name, .slice F1 ky.args.length f1, .slice F2 ky.body.length f2, .slice F3 ky.els.length f3] 62)).drew.cell? ((⟨wr.heap.size, 0, none⟩ : Addr).add j) = some u from new_cellsT wr [.int .i64 kx.op, .string kx.name, .slice E1 kx.args.length e1, .slice E2 kx.body.length e2, .slice E3 kx.els.length e3, .int .i64 ky.op, .string ky.name, .slice F1 ky.args.length f1, .slice F2 ky.body.length f2, .slice F3 ky.els.length f3] 62)
                    have HTO := Lib.hid (ten_one kx ky E1 E2 E3 F1 F2 F3 e1 e2 e3 f1 f2 f3)
                    have hal := ((Below.refl wr.heap.size wr).alloc (Nat.le_refl _) (.cells #[.int .i64 kx.op, .string kx.name, .slice E1 kx.args.length e1, .slice E2 kx.body.length e2, .slice E3 kx.els.length e3, .int .i64 ky.op, .string ky.name, .slice F1 ky.args.length f1, .slice F2 ky.body.length f2, .slice F3 ky.els.length f3] 62)).drew
                    have hbz : w.heap.size ≤ (wr.alloc (.cells #[.int .i64 kx.op, .string kx.name, .slice E1 kx.args.length e1, .slice E2 kx.body.length e2, .slice E3 kx.els.length e3, .int .i64 ky.op, .string ky.name, .slice F1 ky.args.length f1, .slice F2 ky.body.length f2, .slice F3 ky.els.length f3] 62)).drew.heap.size := Nat.le_trans HBi.out.size hal.size
                    have HAL := Lib.hid hal
                    have HLB := Lib.hid (show (m2 + q + 1 ≤ maxLen ∧ (m2 + q + 1) * 192 ≤ 140737488355328) from ⟨by unfold maxLen; omega, by omega⟩)
                    clear hw0 hal
                    go_region_law (refine step_append_lies _ rfl _ _ 63 rfl w.heap.size 62 i0 (.agg #[.int .i64 0, .string ⟨#[]⟩, .slice none 0 0, .slice none 0 0, .slice none 0 0, .int .i64 0, .string ⟨#[]⟩, .slice none 0 0, .slice none 0 0, .slice none 0 0]) 10 192 Try.underlying63 hi hz0 hz1 hz2 rfl (by decide) _ (m2 + q) (jtCells (LM ++ Mi)) rfl HOW.out ⟨wr.heap.size, 0, none⟩ 1 1 [.int .i64 kx.op, .string kx.name, .slice E1 kx.args.length e1, .slice E2 kx.body.length e2, .slice E3 kx.els.length e3, .int .i64 ky.op, .string ky.name, .slice F1 ky.args.length f1, .slice F2 ky.body.length f2, .slice F3 ky.els.length f3] rfl rfl HNW.out HTO.out (by decide) HLB.out.1 HLB.out.2 hbz _ rfl ?_; intro g5 c5 w5 hown5 hgrow5 hat5 hlt5)
                    all_goals
                      have HF := Lib.hid (And.intro hown5 (And.intro hgrow5 hat5))
                      clear hown5 hgrow5 hat5 x0 x1 x2 x3 x4 v0 v1 v2 v3 v4
                      go_wp2_with fail
                      go_roundw
                      case rel =>
                        obtain ⟨hown5, hgrow5, hat5⟩ := HF.out
                        have hal := HAL.out
                        obtain ⟨hML, hMp, hMo, hMs⟩ := HMM.out
                        refine ⟨q + 1, Mi ++ [⟨⟨kx, E1, e1, E2, e2, E3, e3⟩, ⟨ky, F1, f1, F2, f2, F3, f3⟩⟩], by omega, by go_num, ?_, by rw [List.length_append, hML]; rfl, ?_, fun j hj => ?_, ?_, ?_, ?_, ?_⟩
                        · rw [← List.append_assoc]
                          exact WPT.snoc HLN.out hown5
                        · rw [List.map_append, hMp, HZ2.out]; rfl
                        · rcases List.mem_append.1 hj with hj | hj
                          · exact hMo j hj
                          · simp at hj; subst hj; exact HJ.out
                        · rw [measJ_app, hMs, HS2'.out]; show _ + (sizeT kx + 0) = _; omega
                        · exact (HSi.out.below hal).grow hgrow5 (HWi.out.apart' HSi.out)
                        · exact (HBi.out.trans (hal.mono HBi.out.size)).grown hgrow5 hbz (fun q e => (HWi.out.lt q e).1)
                        · exact (HGi.out.below hal).row hgrow5 hgrow5.size hat5
                      case measure => simp only [intOf]; omega
                  · have hqn : q = nk := by omega
                    have HQN := Lib.hid hqn
                    clear hqn
                    go_wp2_with fail
                    go_roundw
                    case rel =>
                      obtain ⟨hML, hMp, hMo, hMs⟩ := HMM.out
                      have h4 : (lstT i.x.t k).take q = lstT i.x.t k := by rw [HQN.out, ← HNK.out, List.take_length]
                      have h5 : ((lstT i.x.t k).zip (lstT i.y.t k)).take q = (lstT i.x.t k).zip (lstT i.y.t k) := by rw [List.take_of_length_le]; rw [List.length_zip, HNK.out, HQN.out]; omega
                      rw [h4] at hMs
                      rw [h5] at hMp
                      refine ⟨k + 1, M ++ Mi, K1 ++ [⟨bx, ox, by_, oy, nk⟩], S2 ++ [(lstT i.x.t k, lstT i.y.t k)], by omega, by go_num, by rw [← List.append_assoc, HLM.out]; exact HWi.out, HSi.out, HKx.out.snoc HNK.out.symm (HNK.out.trans HY.out) HCX.out HCY.out HSX.out HSY.out, fun j hj => ?_, ?_, ?_, HBi.out, HGi.out⟩
                      · rcases List.mem_append.1 hj with hj | hj
                        · exact HMo.out j hj
                        · exact hMo j hj
                      · rw [← List.append_assoc, HLM.out, List.map_append, hMp]
                        exact PartT.miss (q := i.p) HPt.out hk2 (HNK.out.trans HY.out)
                      · rw [measJ_app, sumL_next _ hk2, hMs]; have := HMm.out; omega
                    case measure => simp only [intOf]; omega
          · obtain rfl : k = 2 := by omega
            go_wp2_with fail
            go_roundg (gk - 1)
            case measure => have h1 := HM.out; rw [measJ_app] at h1; have h2 : measJ [i] = sizeT i.x.t + 0 := rfl; have h3 := sizeT_pos i.x.t; omega
            case rel =>
              have h1 := HM.out
              rw [measJ_app] at h1
              have h2 : measJ [i] = sizeT i.x.t + 0 := rfl
              have h3 := sumL_le i.x.t (Nat.le_refl 2)
              refine ⟨LM, K1, S2, HWM.out, HSx.out, HKx.out, fun j hj => ?_, ?_, HBx.out, ?_, by omega⟩
              · rw [← HLM.out] at hj
                rcases List.mem_append.1 hj with hj | hj
                · exact HOK.out j (by simp [hj])
                · exact HMo.out j hj
              · exact PartT.fin HPt.out (by have h := HI.out; rw [List.map_append] at h; exact h) HZ.out
              · rw [← HLM.out, measJ_app]; have := HMm.out; omega
end Go.Proofs.Ytljdbjfbcjigaaa
