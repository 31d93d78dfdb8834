/-
  What the program asks of phis, instructions and ends of blocks.
-/
import Derived.Test.YtomhomnibikceaaDoorNK
import Derived.Test.YtomhomnibikceaaDoorNJ
namespace Go.Proofs.YtomhomnibikceaaDoor
open Go.RowKit
set_option maxRecDepth 100000

def phi1 (c : Cd) (np : Nat) (p : Ph) : Bool := regB c p.to && (decide (p.args.length = np) && regsB c p.args)
theorem phiB_eq (c : Cd) (b : Nat) (p : Ph) : phiB c b p = (decide (b ≠ 0) && phi1 c (predsL c b).length p) := rfl

set_option maxHeartbeats 2000000 in
theorem phiFit_any (c : Cd) (A : Option Addr) (cap : Nat) (p : Ph) (v : Value) (np g h : Nat) (w : World) (hg : BoxV w g [.int .i64 c.params, .int .i64 c.regs, .slice A c.blocks.length cap]) (hlg : g < w.heap.size) (hh : BoxV w h [.int .i64 np]) (hlh : h < w.heap.size) (hV : PhV w (Lt w.heap.size) p v) (hn : p.args.length ≤ 1048576) :
    Calls Tryd.prog 98 #[v, .pointer (some ⟨g, 0, none⟩), .pointer (some ⟨h, 0, none⟩)] w (BoolB (phi1 c np p) w) := by
  obtain ⟨A1, c1, rfl, r1⟩ := hV
  obtain ⟨to, args⟩ := p
  dsimp only at *
  have CH := fun W => Lib.hid (hasReg_any c A cap to W)
  have CA := fun W (hb : Below w.heap.size w W) => Lib.hid (allRegs_any c args hn A1 c1 A cap W (r1.on hb hb.size))
  have HV := Lib.hid (show phi1 c np ⟨to, args⟩ = (regB c to && (decide (args.length = np) && args.all (regB c))) from rfl)
  generalize phi1 c np ⟨to, args⟩ = res at *
  unfold cdv at CH CA
  have HG := Lib.hid hg
  have HH := Lib.hid hh
  clear hg hh r1
  have hb : Below w.heap.size w (w.alloc (.cells #[.int .i64 to, .slice A1 args.length c1] 58)) := (Below.refl _ _).alloc (Nat.le_refl _) _
  have hl0 : w.heap.size < (w.alloc (.cells #[.int .i64 to, .slice A1 args.length c1] 58)).heap.size := by rw [World.size_alloc]; omega
  have K0 := Lib.hid (BoxV.new w [.int .i64 to, .slice A1 args.length c1] 58)
  have hbs := hb.size
  have a0 := HG.out.below hb hlg 0 _ rfl
  have a1 := HG.out.below hb hlg 1 _ rfl
  have a2 := HG.out.below hb hlg 2 _ rfl
  generalize args.all (regB c) = zr at *
  generalize regB c to = zt at *
  cases zt
  · go_enter Tryd.func98, Tryd.ntmps98
    go_wp2_with fail
    (with_reducible refine Calls.mono (CH _).out ?_)
    rintro ee w1 ⟨rfl, hb1⟩
    have hb2 := hb.trans (hb1.mono hbs)
    go_wp2_with fail
    go_ret
    exact ⟨ret_bool' (by rw [HV.out]; rfl), hb2⟩
  · by_cases hln : args.length = np
    · have HV2 := Lib.hid (show res = zr by rw [HV.out, hln]; simp)
      subst hln
      clear HV
      go_enter Tryd.func98, Tryd.ntmps98
      go_wp2_with fail
      (with_reducible refine Calls.mono (CH _).out ?_)
      rintro ee w1 ⟨rfl, hb1⟩
      have hb2 := hb.trans (hb1.mono hbs)
      have k1 := K0.out.below hb1 hl0 1 _ rfl
      have b0 := HG.out.below hb2 hlg 0 _ rfl
      have b1 := HG.out.below hb2 hlg 1 _ rfl
      have b2 := HG.out.below hb2 hlg 2 _ rfl
      have h0 := HH.out.below hb2 hlh 0 _ rfl
      go_wp2_with fail
      (with_reducible refine Calls.mono (CA _ hb2).out ?_)
      rintro ee w2 ⟨rfl, hb3⟩
      have hb4 := hb2.trans (hb3.mono hb2.size)
      go_wp2_with fail
      go_ret
      exact ⟨ret_bool' HV2.out.symm, hb4⟩
    · have HV2 := Lib.hid (show res = false by rw [HV.out, decide_eq_false hln]; rfl)
      have e1 : ((args.length : Int) == (np : Int)) = false := beq_no (by omega)
      clear HV CA hln
      go_enter Tryd.func98, Tryd.ntmps98
      go_wp2_with fail
      (with_reducible refine Calls.mono (CH _).out ?_)
      rintro ee w1 ⟨rfl, hb1⟩
      have hb2 := hb.trans (hb1.mono hbs)
      have k1 := K0.out.below hb1 hl0 1 _ rfl
      have h0 := HH.out.below hb2 hlh 0 _ rfl
      go_wp2_with fail
      go_ret
      exact ⟨ret_bool' HV2.out.symm, hb2⟩

set_option maxHeartbeats 2000000 in
theorem allPhi_of (P : Ph → Bool) (l : List Ph) (hn : l.length ≤ 1048576) (A : Option Addr) (cap : Nat) (ga gb : Nat) (w : World) (hR : PhS w (Lt w.heap.size) l A)
    (H : ∀ i, (h : i < l.length) → ∀ (v : Value) (W : World), Below w.heap.size w W → PhV W (Lt W.heap.size) l[i] v → Calls Tryd.prog 98 #[v, .pointer (some ⟨ga, 0, none⟩), .pointer (some ⟨gb, 0, none⟩)] W (BoolB (P l[i]) W)) :
    Calls Tryd.prog 97 #[.slice A l.length cap, .func (.func 98) #[] #[.pointer (some ⟨ga, 0, none⟩), .pointer (some ⟨gb, 0, none⟩)]] w (BoolB (l.all P) w) := by
  have HR := Lib.hid hR
  have HC := Lib.hid H
  clear hR H
  go_enter Tryd.func97, Tryd.ntmps97
  go_wp2_with fail
  go_loopw [9] (fun i wr => ∃ (k : Nat), k ≤ l.length ∧ i = .int .i64 k ∧ (∀ j, (h : j < l.length) → j < k → P l[j] = true) ∧ Below w.heap.size w wr) (fun i _ => l.length - (intOf i).toNat)
  case atStart => exact ⟨0, Nat.zero_le _, rfl, fun j _ hj => absurd hj (by omega), Below.refl _ _⟩
  case round =>
    obtain ⟨k, hk, rfl, hall, hb⟩ := hrel
    have HA := Lib.hid hall
    clear hall
    have hbs := hb.size
    by_cases hlt : k < l.length
    · obtain ⟨b, o, rfl, hB, d0, ⟨A1, c1, d1, r1⟩⟩ := (HR.out.on hb hbs).at_ hlt
      have hal := (Below.refl wr.heap.size wr).alloc (Nat.le_refl _) (.cells #[.int .i64 l[k].to, .slice A1 l[k].args.length c1] 58)
      have CK := HC.out k hlt _ _ (hb.trans (hal.mono hbs)) ⟨A1, c1, rfl, r1.on hal hal.size⟩
      have hbal := hb.trans (hal.mono hbs)
      have HN := Lib.hid (show P l[k] = false → l.all P = false from fun h => all_no hlt h)
      have HS := Lib.hid (show P l[k] = true → ∀ j, (h : j < l.length) → j < k + 1 → P l[j] = true from fun h j hj hjk => by
        by_cases e : j = k
        · subst e; exact h
        · exact HA.out j hj (by omega))
      clear HA HC r1 hal
      generalize P l[k] = z at *
      generalize l[k] = x at *
      obtain ⟨x0, x1⟩ := x
      dsimp only at *
      cases z
      · replace CK := Lib.hid CK
        go_wp2_with (go_at_call 98; (with_reducible refine Calls.mono CK.out ?_); rintro ee w2 ⟨rfl, hb2⟩; have hb3 := hbal.trans (hb2.mono hbal.size))
        go_ret
        exact ⟨ret_bool' (HN.out (by trivial)).symm, hb3⟩
      · replace CK := Lib.hid CK
        go_wp2_with (go_at_call 98; (with_reducible refine Calls.mono CK.out ?_); rintro ee w2 ⟨rfl, hb2⟩; have hb3 := hbal.trans (hb2.mono hbal.size))
        go_roundw
        case rel => exact ⟨k + 1, by omega, by go_num, HS.out (by trivial), hb3⟩
        case measure => simp only [intOf]; omega
    · obtain rfl : k = l.length := by omega
      have HV := Lib.hid (show l.all P = true from all_yes fun i hi => HA.out i hi hi)
      go_wp2_with fail
      go_ret
      exact ⟨ret_bool' HV.out.symm, hb⟩

set_option maxHeartbeats 2000000 in
theorem allIns_of (P : Ik → Bool) (l : List Ik) (hn : l.length ≤ 1048576) (A : Option Addr) (cap : Nat) (ga gb : Nat) (w : World) (hR : IkS w (Lt w.heap.size) l A)
    (H : ∀ i, (h : i < l.length) → ∀ (v : Value) (W : World), Below w.heap.size w W → IkV W (Lt W.heap.size) l[i] v → Calls Tryd.prog 73 #[v, .pointer (some ⟨ga, 0, none⟩), .pointer (some ⟨gb, 0, none⟩)] W (BoolB (P l[i]) W)) :
    Calls Tryd.prog 72 #[.slice A l.length cap, .func (.func 73) #[] #[.pointer (some ⟨ga, 0, none⟩), .pointer (some ⟨gb, 0, none⟩)]] w (BoolB (l.all P) w) := by
  have HR := Lib.hid hR
  have HC := Lib.hid H
  clear hR H
  go_enter Tryd.func72, Tryd.ntmps72
  go_wp2_with fail
  go_loopw [9] (fun i wr => ∃ (k : Nat), k ≤ l.length ∧ i = .int .i64 k ∧ (∀ j, (h : j < l.length) → j < k → P l[j] = true) ∧ Below w.heap.size w wr) (fun i _ => l.length - (intOf i).toNat)
  case atStart => exact ⟨0, Nat.zero_le _, rfl, fun j _ hj => absurd hj (by omega), Below.refl _ _⟩
  case round =>
    obtain ⟨k, hk, rfl, hall, hb⟩ := hrel
    have HA := Lib.hid hall
    clear hall
    have hbs := hb.size
    by_cases hlt : k < l.length
    · obtain ⟨b, o, rfl, hB, d0, d1, ⟨A2, c2, d2, r2⟩, d3⟩ := (HR.out.on hb hbs).at_ hlt
      have hal := (Below.refl wr.heap.size wr).alloc (Nat.le_refl _) (.cells #[.int .i64 l[k].op, .int .i64 l[k].to, .slice A2 l[k].args.length c2, .int .i64 l[k].n] 62)
      have CK := HC.out k hlt _ _ (hb.trans (hal.mono hbs)) ⟨A2, c2, rfl, r2.on hal hal.size⟩
      have hbal := hb.trans (hal.mono hbs)
      have HN := Lib.hid (show P l[k] = false → l.all P = false from fun h => all_no hlt h)
      have HS := Lib.hid (show P l[k] = true → ∀ j, (h : j < l.length) → j < k + 1 → P l[j] = true from fun h j hj hjk => by
        by_cases e : j = k
        · subst e; exact h
        · exact HA.out j hj (by omega))
      clear HA HC r2 hal
      generalize P l[k] = z at *
      generalize l[k] = x at *
      obtain ⟨x0, x1, x2, x3⟩ := x
      dsimp only at *
      cases z
      · replace CK := Lib.hid CK
        go_wp2_with (go_at_call 73; (with_reducible refine Calls.mono CK.out ?_); rintro ee w2 ⟨rfl, hb2⟩; have hb3 := hbal.trans (hb2.mono hbal.size))
        go_ret
        exact ⟨ret_bool' (HN.out (by trivial)).symm, hb3⟩
      · replace CK := Lib.hid CK
        go_wp2_with (go_at_call 73; (with_reducible refine Calls.mono CK.out ?_); rintro ee w2 ⟨rfl, hb2⟩; have hb3 := hbal.trans (hb2.mono hbal.size))
        go_roundw
        case rel => exact ⟨k + 1, by omega, by go_num, HS.out (by trivial), hb3⟩
        case measure => simp only [intOf]; omega
    · obtain rfl : k = l.length := by omega
      have HV := Lib.hid (show l.all P = true from all_yes fun i hi => HA.out i hi hi)
      go_wp2_with fail
      go_ret
      exact ⟨ret_bool' HV.out.symm, hb⟩

set_option maxHeartbeats 2000000 in
theorem allBlock_of (P : Bk → Bool) (l : List Bk) (hn : l.length ≤ 1048576) (A : Option Addr) (cap : Nat) (cv : Value) (w : World) (hR : BkS w (Lt w.heap.size) l A)
    (H : ∀ i, (h : i < l.length) → ∀ (v : Value) (W : World), Below w.heap.size w W → BkV W (Lt W.heap.size) l[i] v → Calls Tryd.prog 70 #[cv, v] W (BoolB (P l[i]) W)) :
    Calls Tryd.prog 69 #[.slice A l.length cap, .func (.func 70) #[cv] #[]] w (BoolB (l.all P) w) := by
  have HR := Lib.hid hR
  have HC := Lib.hid H
  clear hR H
  go_enter Tryd.func69, Tryd.ntmps69
  go_wp2_with fail
  go_loopw [9] (fun i wr => ∃ (k : Nat), k ≤ l.length ∧ i = .int .i64 k ∧ (∀ j, (h : j < l.length) → j < k → P l[j] = true) ∧ Below w.heap.size w wr) (fun i _ => l.length - (intOf i).toNat)
  case atStart => exact ⟨0, Nat.zero_le _, rfl, fun j _ hj => absurd hj (by omega), Below.refl _ _⟩
  case round =>
    obtain ⟨k, hk, rfl, hall, hb⟩ := hrel
    have HA := Lib.hid hall
    clear hall
    have hbs := hb.size
    by_cases hlt : k < l.length
    · obtain ⟨b, o, rfl, hB, ⟨A0, c0, d0, r0⟩, ⟨A1, c1, d1, r1⟩, d2, d3, ⟨A4, c4, d4, r4⟩⟩ := (HR.out.on hb hbs).at_ hlt
      have hal := (Below.refl wr.heap.size wr).alloc (Nat.le_refl _) (.cells #[.slice A0 l[k].phis.length c0, .slice A1 l[k].ins.length c1, .int .i64 l[k].jump, .int .i64 l[k].on, .slice A4 l[k].next.length c4] 56)
      have CK := HC.out k hlt _ _ (hb.trans (hal.mono hbs)) ⟨A0, c0, A1, c1, A4, c4, rfl, r0.on hal hal.size, r1.on hal hal.size, r4.on hal hal.size⟩
      have hbal := hb.trans (hal.mono hbs)
      have HN := Lib.hid (show P l[k] = false → l.all P = false from fun h => all_no hlt h)
      have HS := Lib.hid (show P l[k] = true → ∀ j, (h : j < l.length) → j < k + 1 → P l[j] = true from fun h j hj hjk => by
        by_cases e : j = k
        · subst e; exact h
        · exact HA.out j hj (by omega))
      clear HA HC r0 r1 r4 hal
      generalize P l[k] = z at *
      generalize l[k] = x at *
      obtain ⟨x0, x1, x2, x3, x4⟩ := x
      dsimp only at *
      cases z
      · replace CK := Lib.hid CK
        go_wp2_with (go_at_call 70; (with_reducible refine Calls.mono CK.out ?_); rintro ee w2 ⟨rfl, hb2⟩; have hb3 := hbal.trans (hb2.mono hbal.size))
        go_ret
        exact ⟨ret_bool' (HN.out (by trivial)).symm, hb3⟩
      · replace CK := Lib.hid CK
        go_wp2_with (go_at_call 70; (with_reducible refine Calls.mono CK.out ?_); rintro ee w2 ⟨rfl, hb2⟩; have hb3 := hbal.trans (hb2.mono hbal.size))
        go_roundw
        case rel => exact ⟨k + 1, by omega, by go_num, HS.out (by trivial), hb3⟩
        case measure => simp only [intOf]; omega
    · obtain rfl : k = l.length := by omega
      have HV := Lib.hid (show l.all P = true from all_yes fun i hi => HA.out i hi hi)
      go_wp2_with fail
      go_ret
      exact ⟨ret_bool' HV.out.symm, hb⟩

set_option maxHeartbeats 2000000 in
theorem allCode_of (P : Cd → Bool) (l : List Cd) (hn : l.length ≤ 1048576) (A : Option Addr) (cap : Nat) (w : World) (hR : CdS w (Lt w.heap.size) l A)
    (H : ∀ i, (h : i < l.length) → ∀ (v : Value) (W : World), Below w.heap.size w W → CdV W (Lt W.heap.size) l[i] v → Calls Tryd.prog 46 #[v] W (BoolB (P l[i]) W)) :
    Calls Tryd.prog 45 #[.slice A l.length cap, .func (.func 46) #[] #[]] w (BoolB (l.all P) w) := by
  have HR := Lib.hid hR
  have HC := Lib.hid H
  clear hR H
  go_enter Tryd.func45, Tryd.ntmps45
  go_wp2_with fail
  go_loopw [9] (fun i wr => ∃ (k : Nat), k ≤ l.length ∧ i = .int .i64 k ∧ (∀ j, (h : j < l.length) → j < k → P l[j] = true) ∧ Below w.heap.size w wr) (fun i _ => l.length - (intOf i).toNat)
  case atStart => exact ⟨0, Nat.zero_le _, rfl, fun j _ hj => absurd hj (by omega), Below.refl _ _⟩
  case round =>
    obtain ⟨k, hk, rfl, hall, hb⟩ := hrel
    have HA := Lib.hid hall
    clear hall
    have hbs := hb.size
    by_cases hlt : k < l.length
    · obtain ⟨b, o, rfl, hB, d0, d1, ⟨A2, c2, d2, r2⟩⟩ := (HR.out.on hb hbs).at_ hlt
      have hal := (Below.refl wr.heap.size wr).alloc (Nat.le_refl _) (.cells #[.int .i64 l[k].params, .int .i64 l[k].regs, .slice A2 l[k].blocks.length c2] 44)
      have CK := HC.out k hlt _ _ (hb.trans (hal.mono hbs)) ⟨A2, c2, rfl, r2.on hal hal.size⟩
      have hbal := hb.trans (hal.mono hbs)
      have HN := Lib.hid (show P l[k] = false → l.all P = false from fun h => all_no hlt h)
      have HS := Lib.hid (show P l[k] = true → ∀ j, (h : j < l.length) → j < k + 1 → P l[j] = true from fun h j hj hjk => by
        by_cases e : j = k
        · subst e; exact h
        · exact HA.out j hj (by omega))
      clear HA HC r2 hal
      generalize P l[k] = z at *
      generalize l[k] = x at *
      obtain ⟨x0, x1, x2⟩ := x
      dsimp only at *
      cases z
      · replace CK := Lib.hid CK
        go_wp2_with (go_at_call 46; (with_reducible refine Calls.mono CK.out ?_); rintro ee w2 ⟨rfl, hb2⟩; have hb3 := hbal.trans (hb2.mono hbal.size))
        go_ret
        exact ⟨ret_bool' (HN.out (by trivial)).symm, hb3⟩
      · replace CK := Lib.hid CK
        go_wp2_with (go_at_call 46; (with_reducible refine Calls.mono CK.out ?_); rintro ee w2 ⟨rfl, hb2⟩; have hb3 := hbal.trans (hb2.mono hbal.size))
        go_roundw
        case rel => exact ⟨k + 1, by omega, by go_num, HS.out (by trivial), hb3⟩
        case measure => simp only [intOf]; omega
    · obtain rfl : k = l.length := by omega
      have HV := Lib.hid (show l.all P = true from all_yes fun i hi => HA.out i hi hi)
      go_wp2_with fail
      go_ret
      exact ⟨ret_bool' HV.out.symm, hb⟩

end Go.Proofs.YtomhomnibikceaaDoor
