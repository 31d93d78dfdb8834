/-
  Words of a kind: what the model's and the program's NumberOf and WordValid return.
-/
import Derived.Test.YtkhcfhhejmkikaaGreatDoorMg2
import Derived.Shelf.Strings.Builder1
import Derived.Shelf.Strings.Builder2
import Derived.Shelf.Strings.OnBuilder
import Derived.Shelf.Strconv.Atoi
import Derived.Shelf.Strconv.Itoa0
import Derived.Shelf.Strconv.Itoa1
import Derived.Shelf.LaysM
import Derived.Shelf.Strconv.Itoa2
import Derived.Shelf.Strconv.Itoa3
import Derived.Shelf.Strconv.AtoiErrFast
import Derived.Shelf.Strconv.ParseIntEmpty
import Derived.Shelf.Strconv.AtoiFail
import Derived.Shelf.Strconv.Clone
import Derived.Shelf.Strconv.SyntaxError
import Derived.Shelf.LaysC
import Derived.Shelf.Strconv.ToError
import Derived.Shelf.Strconv.Lower
import Derived.Shelf.Strconv.ParseUint10
import Derived.Shelf.Strconv.ParseUint10Empty
import Derived.Shelf.Strconv.ParseUint10Any
import Derived.Shelf.Strconv.ParseInt10
import Derived.Shelf.Strconv.AtoiLong
import Derived.Shelf.Strconv.AtoiInnerAll
import Derived.Shelf.Strconv.RangeError
import Derived.Shelf.Strconv.ToErrorRange
import Derived.Shelf.Strconv.AtoiAll
import Derived.Shelf.Strconv.ErrVarAll
import Derived.Test.YtkhcfhhejmkikaaGreatDoorProg
import Derived.Lib.SmallJoins
import Derived.Lib.AppendIntMem
namespace Go.Proofs.YtkhcfhhejmkikaaGreatDoor
open Go.RowKit
set_option maxRecDepth 100000

set_option maxHeartbeats 400000 in
theorem l1In_any (n a b : Int) (w : World) :
    Calls Tryz.prog 79 #[.int .i64 n, .int .i64 a, .int .i64 b] w fun e w' => e = .returned (.bool (decide (a ≤ n ∧ n ≤ b))) ∧ w = w' := by
  by_cases h1 : a ≤ n
  · by_cases h2 : n ≤ b
    · go_enter Tryz.func79, Tryz.ntmps79
      go_wp2
      go_ret
      exact ⟨ret_bool (by simp [h1, h2]), rfl⟩
    · go_enter Tryz.func79, Tryz.ntmps79
      go_wp2
      go_ret
      exact ⟨ret_bool (by simp [h2]), rfl⟩
  · go_enter Tryz.func79, Tryz.ntmps79
    go_wp2
    go_ret
    exact ⟨ret_bool (by simp; omega), rfl⟩

/-- Two results: a number and a flag. -/
def NumRet (p : Int × Bool) (w : World) (e : Ending) (w' : World) : Prop := e = .returned (.tuple #[.int .i64 p.1, .bool p.2]) ∧ w = w'

set_option maxHeartbeats 1000000 in
theorem l30Num_pos (s : ByteArray) (w : World) (hs : s.size ≤ maxLen) (h0 : s.data.toList.head? ≠ some 45) :
    Calls Tryz.prog 94 #[.string s] w (NumRet (numEnd false s) w) := by
  unfold maxLen at hs
  by_cases hz : s.size = 0
  · rw [numEnd_no (.inl hz)]
    obtain rfl : s = ⟨#[]⟩ := by cases s with | mk d => simp [ByteArray.size] at hz; rw [hz]
    clear hz h0
    go_enter Tryz.func94, Tryz.ntmps94
    go_wp2
    go_ret2
    exact ⟨rfl, rfl⟩
  have hpos : 0 < s.size := by omega
  have hne : s[0] ≠ 45 := fun e => h0 (by rw [head_get hpos, e])
  have b45 : ((s[0].toNat : Int) == 45) = false := by
    rw [beq_eq_false_iff_ne]; intro e; apply hne; apply UInt8.toNat_inj.1
    show s[0].toNat = 45; omega
  clear hne h0
  by_cases hlong : 17 < s.size
  · rw [numEnd_no (.inr (.inl hlong))]
    have b0 : ((s.size : Int) == 0) = false := by rw [beq_eq_false_iff_ne]; omega
    clear hz
    go_enter Tryz.func94, Tryz.ntmps94
    go_wp2
    go_ret2
    exact ⟨rfl, rfl⟩
  have b0 : ((s.size : Int) == 0) = false := by rw [beq_eq_false_iff_ne]; omega
  clear hz
  by_cases h48 : s[0] = 48 ∧ 1 < s.size
  · rw [numEnd_no (.inr (.inr ⟨by rw [head_get hpos, h48.1], .inl h48.2⟩))]
    obtain ⟨e1, e2⟩ := h48
    have b48 : ((s[0].toNat : Int) == 48) = true := by rw [e1]; rfl
    clear e1
    go_enter Tryz.func94, Tryz.ntmps94
    go_wp2
    go_ret2
    exact ⟨rfl, rfl⟩
  have hgo : ¬ (s.size = 0 ∨ 17 < s.size ∨ (s.data.toList.head? = some 48 ∧ (1 < s.size ∨ false = true))) := by
    rintro (h | h | ⟨h, h' | h'⟩)
    · omega
    · omega
    · rw [head_get hpos] at h; exact h48 ⟨by simpa using h, h'⟩
    · cases h'
  have HGO := Lib.hid hgo
  clear hgo
  have hcase : ((s[0].toNat : Int) == 48) = false ∨ (((s[0].toNat : Int) == 48) = true ∧ s.size ≤ 1) := by
    by_cases e : s[0] = 48
    · right; exact ⟨by rw [e]; rfl, Nat.not_lt.1 (fun h => h48 ⟨e, h⟩)⟩
    · left; rw [beq_eq_false_iff_ne]; intro e'; apply e; apply UInt8.toNat_inj.1; show s[0].toNat = 48; omega
  clear h48
  rcases hcase with b48 | ⟨b48, hone⟩
  all_goals
    go_enter Tryz.func94, Tryz.ntmps94
    go_wp2
    go_loop [5, 6] (fun n i => ∃ k : Nat, k ≤ s.size ∧ i = .int .i64 k ∧ n = .int .i64 (valTo s k) ∧ digTo s k) (fun _ i => s.size - (intOf i).toNat)
    case atStart => exact ⟨0, Nat.zero_le _, rfl, rfl, rfl⟩
    case round =>
      obtain ⟨k, hk, rfl, rfl, hd⟩ := hrel
      have hv := valTo_lt hd hk (by omega)
      by_cases hlt : k < s.size
      · have hb := (s[k]).toNat_lt
        by_cases hdig : 48 ≤ s[k].toNat ∧ s[k].toNat ≤ 57
        · have HD := Lib.hid (digTo_succ hd hlt hdig)
          have HV := Lib.hid (valTo_succ hlt)
          obtain ⟨g1, g2⟩ := hdig
          clear hd
          go_wp2
          go_round
          case rel => exact ⟨k + 1, by omega, by go_num, by rw [HV.out]; go_num, HD.out⟩
          case measure => simp only [intOf]; omega
        · have HD := Lib.hid (not_dig hlt hdig)
          clear hd
          have hor : s[k].toNat < 48 ∨ (48 ≤ s[k].toNat ∧ 57 < s[k].toNat) := by omega
          clear hdig
          rcases hor with g1 | ⟨g1, g2⟩
          all_goals
            go_wp2
            go_ret2
            rw [numEnd_bad HD.out]
            exact ⟨rfl, rfl⟩
      · obtain rfl : k = s.size := by omega
        have HD := Lib.hid (digTo_end hd)
        have HV := Lib.hid (valTo_end s)
        clear hd
        go_wp2
        go_ret2
        rw [numEnd_yes HGO.out HD.out, HV.out]
        exact ⟨rfl, rfl⟩

theorem extract_size (s : ByteArray) (h : 0 < s.size) : (s.extract 1 s.size).size = s.size - 1 := by
  rw [ByteArray.size_extract]; omega
set_option maxHeartbeats 1000000 in
theorem l30Num_neg (s : ByteArray) (w : World) (hs : s.size ≤ maxLen) (h0 : s.data.toList.head? = some 45) :
    Calls Tryz.prog 94 #[.string s] w (NumRet (numEnd true (s.extract 1 s.size)) w) := by
  unfold maxLen at hs
  have hpos : 0 < s.size := by
    by_cases e : s.size = 0
    · exfalso
      have : s.data.toList = [] := List.length_eq_zero_iff.1 (by simpa using e)
      rw [this] at h0; cases h0
    · omega
  have b45 : ((s[0].toNat : Int) == 45) = true := by
    have : s[0] = 45 := by rw [head_get hpos] at h0; simpa using h0
    rw [this]; rfl
  clear h0
  have hes := extract_size s hpos
  generalize hr : s.extract 1 s.size = r at *
  have hrs : r.size ≤ s.size := by omega
  clear hes
  by_cases hz : r.size = 0
  · rw [numEnd_no (.inl hz)]
    have b0 : ((r.size : Int) == 0) = true := by rw [beq_iff_eq]; omega
    clear hz
    go_enter Tryz.func94, Tryz.ntmps94
    go_wp2
    go_ret2
    exact ⟨rfl, rfl⟩
  have b0 : ((r.size : Int) == 0) = false := by rw [beq_eq_false_iff_ne]; omega
  have hr0 : 0 < r.size := by omega
  clear hz
  by_cases hlong : 17 < r.size
  · rw [numEnd_no (.inr (.inl hlong))]
    go_enter Tryz.func94, Tryz.ntmps94
    go_wp2
    go_ret2
    exact ⟨rfl, rfl⟩
  have hlong' : r.size ≤ 17 := by omega
  by_cases h48 : r[0] = 48
  · rw [numEnd_no (.inr (.inr ⟨by rw [head_get hr0, h48], .inr rfl⟩))]
    have b48 : ((r[0].toNat : Int) == 48) = true := by rw [h48]; rfl
    clear h48 hlong
    have hor : 1 < r.size ∨ r.size ≤ 1 := by omega
    rcases hor with hor | hor
    all_goals
      go_enter Tryz.func94, Tryz.ntmps94
      go_wp2
      go_ret2
      exact ⟨rfl, rfl⟩
  have b48 : ((r[0].toNat : Int) == 48) = false := by
    rw [beq_eq_false_iff_ne]; intro e; apply h48; apply UInt8.toNat_inj.1; show r[0].toNat = 48; omega
  have hgo : ¬ (r.size = 0 ∨ 17 < r.size ∨ (r.data.toList.head? = some 48 ∧ (1 < r.size ∨ true = true))) := by
    rintro (h | h | ⟨h, _⟩)
    · omega
    · omega
    · rw [head_get hr0] at h; exact h48 (by simpa using h)
  have HGO := Lib.hid hgo
  clear h48 hgo hlong
  go_enter Tryz.func94, Tryz.ntmps94
  go_wp2
  clear b48 b0 hr b45
  go_loop [5, 6] (fun n i => ∃ k : Nat, k ≤ r.size ∧ i = .int .i64 k ∧ n = .int .i64 (valTo r k) ∧ digTo r k) (fun _ i => r.size - (intOf i).toNat)
  case atStart => exact ⟨0, Nat.zero_le _, rfl, rfl, rfl⟩
  case round =>
    obtain ⟨k, hk, rfl, rfl, hd⟩ := hrel
    have hv := valTo_lt hd hk (by omega)
    by_cases hlt : k < r.size
    · have hb := (r[k]).toNat_lt
      by_cases hdig : 48 ≤ r[k].toNat ∧ r[k].toNat ≤ 57
      · have HD := Lib.hid (digTo_succ hd hlt hdig)
        have HV := Lib.hid (valTo_succ hlt)
        obtain ⟨g1, g2⟩ := hdig
        clear hd
        go_wp2
        go_round
        case rel => exact ⟨k + 1, by omega, by go_num, by rw [HV.out]; go_num, HD.out⟩
        case measure => simp only [intOf]; omega
      · have HD := Lib.hid (not_dig hlt hdig)
        clear hd
        have hor : r[k].toNat < 48 ∨ (48 ≤ r[k].toNat ∧ 57 < r[k].toNat) := by omega
        clear hdig
        rcases hor with g1 | ⟨g1, g2⟩
        all_goals
          go_wp2
          go_ret2
          rw [numEnd_bad HD.out]
          exact ⟨rfl, rfl⟩
    · obtain rfl : k = r.size := by omega
      have HD := Lib.hid (digTo_end hd)
      have HV := Lib.hid (valTo_end r)
      clear hd
      go_wp2
      go_ret2
      rw [numEnd_yes (by have := HGO.out; simpa using this) HD.out]
      refine ⟨?_, rfl⟩
      rw [← HV.out]
      rfl
theorem l30Num_any (s : ByteArray) (w : World) (hs : s.size ≤ maxLen) :
    Calls Tryz.prog 94 #[.string s] w (NumRet (l30F s) w) := by
  unfold l30F
  by_cases h : s.data.toList.head? = some 45
  · rw [if_pos h]; exact l30Num_neg s w hs h
  · rw [if_neg h]; exact l30Num_pos s w hs h
end Go.Proofs.YtkhcfhhejmkikaaGreatDoor

namespace Go.Proofs
open Go.Shelf
def Tryz.lays156_ren : Go.Shelf.Ren := ⟨fun | 156 => 69 | 165 => 104 | 166 => 105 | 169 => 106 | 240 => 116 | 241 => 117 | 276 => 121 | 277 => 122 | n => n, fun | 31 => 72 | 9 => 9 | 3 => 3 | 4 => 4 | 0 => 0 | 20 => 20 | 72 => 134 | 76 => 138 | 70 => 132 | 37 => 30 | 75 => 137 | 127 => 150 | 164 => 153 | 5 => 5 | 80 => 140 | n => n, fun | n => n⟩
theorem Tryz.lays156 : Go.Proofs.Lays.n156 Tryz.prog Tryz.lays156_ren := {
  mixed := by kernel_rfl
  f156 := Tryz.func69.trans (congrArg some (by kernel_rfl))
  f165 := Tryz.func104.trans (congrArg some (by kernel_rfl))
  f166 := Tryz.func105.trans (congrArg some (by kernel_rfl))
  f169 := Tryz.func106.trans (congrArg some (by kernel_rfl))
  f240 := Tryz.func116.trans (congrArg some (by kernel_rfl))
  f241 := Tryz.func117.trans (congrArg some (by kernel_rfl))
  f276 := Tryz.func121.trans (congrArg some (by kernel_rfl))
  f277 := Tryz.func122.trans (congrArg some (by kernel_rfl))
  t0 := Tryz.underlying0
  a0 := Tryz.isAgg0
  z0 := Tryz.sizeOf0
  v0 := Tryz.zeroValue0
  t3 := Tryz.underlying3
  a3 := Tryz.isAgg3
  z3 := Tryz.sizeOf3
  v3 := Tryz.zeroValue3
  t4 := Tryz.underlying4
  a4 := Tryz.isAgg4
  z4 := Tryz.sizeOf4
  v4 := Tryz.zeroValue4
  t9 := Tryz.underlying9
  a9 := Tryz.isAgg9
  z9 := Tryz.sizeOf9
  v9 := Tryz.zeroValue9
  t20 := Tryz.underlying20
  a20 := Tryz.isAgg20
  z20 := Tryz.sizeOf20
  v20 := Tryz.zeroValue20
  t31 := Tryz.underlying72
  a31 := Tryz.isAgg72
  z31 := Tryz.sizeOf72
  v31 := Tryz.zeroValue72
  t37 := Tryz.underlying30
  a37 := Tryz.isAgg30
  z37 := Tryz.sizeOf30
  v37 := Tryz.zeroValue30
  t70 := Tryz.underlying132
  a70 := Tryz.isAgg132
  z70 := Tryz.sizeOf132
  v70 := Tryz.zeroValue132
  t72 := Tryz.underlying134
  a72 := Tryz.isAgg134
  z72 := Tryz.sizeOf134
  v72 := Tryz.zeroValue134
  t75 := Tryz.underlying137
  a75 := Tryz.isAgg137
  z75 := Tryz.sizeOf137
  v75 := Tryz.zeroValue137
  t76 := Tryz.underlying138
  a76 := Tryz.isAgg138
  z76 := Tryz.sizeOf138
  v76 := Tryz.zeroValue138
  t127 := Tryz.underlying150
  a127 := Tryz.isAgg150
  z127 := Tryz.sizeOf150
  v127 := Tryz.zeroValue150
  t164 := Tryz.underlying153
  a164 := Tryz.isAgg153
  z164 := Tryz.sizeOf153
  v164 := Tryz.zeroValue153 }
theorem Tryz.Builder_Extra_156 : Builder.Extra Tryz.prog Tryz.lays156_ren := {
  sizeBuilder := by kernel_rfl
  liesBuilder := by kernel_rfl
  t5 := Tryz.underlying5
  a5 := Tryz.isAgg5
  z5 := Tryz.sizeOf5
  v5 := Tryz.zeroValue5
  infoByte := by kernel_rfl
  cellsByte := by kernel_rfl
  sizeByte := by kernel_rfl
  neB5 := by decide }
open Go.RowKit in
theorem Tryz.strings_Join_none (a : Option Addr) (c : Nat) (sep : ByteArray) (w : World) :
    Calls Tryz.prog 69 #[.slice a 0 c, .string sep] w fun e w' => e = .returned (.string ⟨#[]⟩) ∧ w' = w := Any.strings_Join_none Tryz.lays156 Tryz.Builder_Extra_156 a c sep w
open Go.RowKit in
theorem Tryz.strings_Join (bk o c : Nat) (xs : List ByteArray) (sep : ByteArray) (w : World) (hcells : ∀ (j : Nat) x, xs[j]? = some x → w.cell? ⟨bk, o + j, none⟩ = some (.string x)) (hbk : bk < w.heap.size) (hN : xs.length ≤ 140737488355328) (hcap : xs.length ≤ c) (hlen : (Lib.join (xs.map (·.data.toList)) sep.data.toList).length ≤ 140737488355328) :
    Calls Tryz.prog 69 #[.slice (some ⟨bk, o, none⟩) xs.length c, .string sep] w fun e w' => e = .returned (.string ⟨(Lib.join (xs.map (·.data.toList)) sep.data.toList).toArray⟩) ∧ Below w.heap.size w w' := Any.strings_Join Tryz.lays156 Tryz.Builder_Extra_156 bk o c xs sep w hcells hbk hN hcap hlen
def Tryz.laysM171_ren : Go.Shelf.Ren := ⟨fun | 171 => 72 | 243 => 107 | 246 => 118 | 283 => 123 | 284 => 124 | 285 => 125 | 286 => 126 | 129 => 133 | 317 => 132 | 318 => 134 | 319 => 135 | 320 => 136 | 337 => 140 | 338 => 141 | n => n, fun | 3 => 3 | 9 => 9 | 2 => 2 | 4 => 4 | 171 => 156 | 0 => 0 | 53 => 157 | 37 => 30 | 5 => 5 | 173 => 160 | 212 => 169 | 51 => 170 | 20 => 20 | 213 => 171 | 46 => 172 | 232 => 185 | 233 => 186 | n => n, fun | 17 => 4 | 18 => 7 | 19 => 8 | n => n⟩
theorem Tryz.laysM171 : Go.Proofs.LaysM.n171 Tryz.prog Tryz.laysM171_ren := {
  mixed := by kernel_rfl
  f129 := Tryz.func133.trans (congrArg some (by kernel_rfl))
  f171 := Tryz.func72.trans (congrArg some (by kernel_rfl))
  f243 := Tryz.func107.trans (congrArg some (by kernel_rfl))
  f246 := Tryz.func118.trans (congrArg some (by kernel_rfl))
  f283 := Tryz.func123.trans (congrArg some (by kernel_rfl))
  f284 := Tryz.func124.trans (congrArg some (by kernel_rfl))
  f285 := Tryz.func125.trans (congrArg some (by kernel_rfl))
  f286 := Tryz.func126.trans (congrArg some (by kernel_rfl))
  f317 := Tryz.func132.trans (congrArg some (by kernel_rfl))
  f318 := Tryz.func134.trans (congrArg some (by kernel_rfl))
  f319 := Tryz.func135.trans (congrArg some (by kernel_rfl))
  f320 := Tryz.func136.trans (congrArg some (by kernel_rfl))
  f337 := Tryz.func140.trans (congrArg some (by kernel_rfl))
  f338 := Tryz.func141.trans (congrArg some (by kernel_rfl))
  t0 := Tryz.underlying0
  a0 := Tryz.isAgg0
  z0 := Tryz.sizeOf0
  v0 := Tryz.zeroValue0
  t2 := Tryz.underlying2
  a2 := Tryz.isAgg2
  z2 := Tryz.sizeOf2
  v2 := Tryz.zeroValue2
  t3 := Tryz.underlying3
  a3 := Tryz.isAgg3
  z3 := Tryz.sizeOf3
  v3 := Tryz.zeroValue3
  t4 := Tryz.underlying4
  a4 := Tryz.isAgg4
  z4 := Tryz.sizeOf4
  v4 := Tryz.zeroValue4
  t5 := Tryz.underlying5
  a5 := Tryz.isAgg5
  z5 := Tryz.sizeOf5
  v5 := Tryz.zeroValue5
  t9 := Tryz.underlying9
  a9 := Tryz.isAgg9
  z9 := Tryz.sizeOf9
  v9 := Tryz.zeroValue9
  t20 := Tryz.underlying20
  a20 := Tryz.isAgg20
  z20 := Tryz.sizeOf20
  v20 := Tryz.zeroValue20
  t37 := Tryz.underlying30
  a37 := Tryz.isAgg30
  z37 := Tryz.sizeOf30
  v37 := Tryz.zeroValue30
  t46 := Tryz.underlying172
  a46 := Tryz.isAgg172
  z46 := Tryz.sizeOf172
  v46 := Tryz.zeroValue172
  t51 := Tryz.underlying170
  a51 := Tryz.isAgg170
  z51 := Tryz.sizeOf170
  v51 := Tryz.zeroValue170
  t53 := Tryz.underlying157
  a53 := Tryz.isAgg157
  z53 := Tryz.sizeOf157
  v53 := Tryz.zeroValue157
  t171 := Tryz.underlying156
  a171 := Tryz.isAgg156
  z171 := Tryz.sizeOf156
  v171 := Tryz.zeroValue156
  t173 := Tryz.underlying160
  a173 := Tryz.isAgg160
  z173 := Tryz.sizeOf160
  v173 := Tryz.zeroValue160
  t212 := Tryz.underlying169
  a212 := Tryz.isAgg169
  z212 := Tryz.sizeOf169
  v212 := Tryz.zeroValue169
  t213 := Tryz.underlying171
  a213 := Tryz.isAgg171
  z213 := Tryz.sizeOf171
  t232 := Tryz.underlying185
  a232 := Tryz.isAgg185
  z232 := Tryz.sizeOf185
  v232 := Tryz.zeroValue185
  t233 := Tryz.underlying186
  a233 := Tryz.isAgg186
  z233 := Tryz.sizeOf186
  v233 := Tryz.zeroValue186
  g17 := by kernel_rfl
  g18 := by kernel_rfl
  g19 := by kernel_rfl
  i0 := by kernel_rfl
  i2 := by kernel_rfl
  i3 := by kernel_rfl
  i4 := by kernel_rfl
  i5 := by kernel_rfl
  i9 := by kernel_rfl
  i20 := by kernel_rfl
  i37 := by kernel_rfl
  i46 := by kernel_rfl
  i51 := by kernel_rfl
  i53 := by kernel_rfl
  i171 := by kernel_rfl
  i173 := by kernel_rfl
  i212 := by kernel_rfl
  i232 := by kernel_rfl
  i233 := by kernel_rfl
  m17 := by kernel_rfl
  m18 := by kernel_rfl
  m19 := by kernel_rfl }
open Go.RowKit Go.Sort Go.Lib in
theorem Tryz.strconv_Itoa (n : Int) (h0 : -9223372036854775808 ≤ n) (h1 : n ≤ 9223372036854775807) (w : World) (htab : Lib.TabIs Tryz.prog w "internal/strconv.uint64pow10" .u64 Lib.pow10Tab) :
    Calls Tryz.prog 72 #[.int .i64 n] w fun e w' => e = .returned (.string ⟨(Lib.itoa n).toArray⟩) ∧ ∃ k os, w' = grow (w.drewN k) os := Any.strconv_Itoa Tryz.laysM171 n h0 h1 w htab
def Tryz.laysC172_ren : Go.Shelf.Ren := ⟨fun | 172 => 113 | 244 => 119 | 245 => 120 | 247 => 127 | 279 => 128 | 280 => 129 | 281 => 130 | 282 => 131 | 287 => 137 | 316 => 138 | 171 => 72 | 205 => 139 | 321 => 142 | 322 => 143 | 243 => 107 | 246 => 118 | 283 => 123 | 284 => 124 | 285 => 125 | 286 => 126 | 129 => 133 | 317 => 132 | 318 => 134 | 319 => 135 | 320 => 136 | 337 => 140 | 338 => 141 | n => n, fun | 9 => 9 | 3 => 3 | 75 => 137 | 76 => 138 | 4 => 4 | 5 => 5 | 167 => 162 | 37 => 30 | 0 => 0 | 85 => 163 | 2 => 2 | 168 => 165 | 53 => 157 | 175 => 174 | 46 => 172 | 210 => 178 | 127 => 150 | 145 => 184 | 143 => 182 | 21 => 21 | 171 => 156 | 173 => 160 | 212 => 169 | 51 => 170 | 20 => 20 | 213 => 171 | 232 => 185 | 233 => 186 | 80 => 140 | n => n, fun | 15 => 5 | 16 => 6 | 17 => 4 | 18 => 7 | 19 => 8 | n => n⟩
theorem Tryz.laysC172 : Go.Proofs.LaysC.n172 Tryz.prog Tryz.laysC172_ren := {
  mixed := by kernel_rfl
  f129 := Tryz.func133.trans (congrArg some (by kernel_rfl))
  f171 := Tryz.func72.trans (congrArg some (by kernel_rfl))
  f172 := Tryz.func113.trans (congrArg some (by kernel_rfl))
  f205 := Tryz.func139.trans (congrArg some (by kernel_rfl))
  f243 := Tryz.func107.trans (congrArg some (by kernel_rfl))
  f244 := Tryz.func119.trans (congrArg some (by kernel_rfl))
  f245 := Tryz.func120.trans (congrArg some (by kernel_rfl))
  f246 := Tryz.func118.trans (congrArg some (by kernel_rfl))
  f247 := Tryz.func127.trans (congrArg some (by kernel_rfl))
  f279 := Tryz.func128.trans (congrArg some (by kernel_rfl))
  f280 := Tryz.func129.trans (congrArg some (by kernel_rfl))
  f281 := Tryz.func130.trans (congrArg some (by kernel_rfl))
  f282 := Tryz.func131.trans (congrArg some (by kernel_rfl))
  f283 := Tryz.func123.trans (congrArg some (by kernel_rfl))
  f284 := Tryz.func124.trans (congrArg some (by kernel_rfl))
  f285 := Tryz.func125.trans (congrArg some (by kernel_rfl))
  f286 := Tryz.func126.trans (congrArg some (by kernel_rfl))
  f287 := Tryz.func137.trans (congrArg some (by kernel_rfl))
  f316 := Tryz.func138.trans (congrArg some (by kernel_rfl))
  f317 := Tryz.func132.trans (congrArg some (by kernel_rfl))
  f318 := Tryz.func134.trans (congrArg some (by kernel_rfl))
  f319 := Tryz.func135.trans (congrArg some (by kernel_rfl))
  f320 := Tryz.func136.trans (congrArg some (by kernel_rfl))
  f321 := Tryz.func142.trans (congrArg some (by kernel_rfl))
  f322 := Tryz.func143.trans (congrArg some (by kernel_rfl))
  f337 := Tryz.func140.trans (congrArg some (by kernel_rfl))
  f338 := Tryz.func141.trans (congrArg some (by kernel_rfl))
  t0 := Tryz.underlying0
  a0 := Tryz.isAgg0
  z0 := Tryz.sizeOf0
  v0 := Tryz.zeroValue0
  t2 := Tryz.underlying2
  a2 := Tryz.isAgg2
  z2 := Tryz.sizeOf2
  v2 := Tryz.zeroValue2
  t3 := Tryz.underlying3
  a3 := Tryz.isAgg3
  z3 := Tryz.sizeOf3
  v3 := Tryz.zeroValue3
  t4 := Tryz.underlying4
  a4 := Tryz.isAgg4
  z4 := Tryz.sizeOf4
  v4 := Tryz.zeroValue4
  t5 := Tryz.underlying5
  a5 := Tryz.isAgg5
  z5 := Tryz.sizeOf5
  v5 := Tryz.zeroValue5
  t9 := Tryz.underlying9
  a9 := Tryz.isAgg9
  z9 := Tryz.sizeOf9
  v9 := Tryz.zeroValue9
  t20 := Tryz.underlying20
  a20 := Tryz.isAgg20
  z20 := Tryz.sizeOf20
  v20 := Tryz.zeroValue20
  t21 := Tryz.underlying21
  a21 := Tryz.isAgg21
  z21 := Tryz.sizeOf21
  v21 := Tryz.zeroValue21
  t37 := Tryz.underlying30
  a37 := Tryz.isAgg30
  z37 := Tryz.sizeOf30
  v37 := Tryz.zeroValue30
  t46 := Tryz.underlying172
  a46 := Tryz.isAgg172
  z46 := Tryz.sizeOf172
  v46 := Tryz.zeroValue172
  t51 := Tryz.underlying170
  a51 := Tryz.isAgg170
  z51 := Tryz.sizeOf170
  v51 := Tryz.zeroValue170
  t53 := Tryz.underlying157
  a53 := Tryz.isAgg157
  z53 := Tryz.sizeOf157
  v53 := Tryz.zeroValue157
  t75 := Tryz.underlying137
  a75 := Tryz.isAgg137
  z75 := Tryz.sizeOf137
  v75 := Tryz.zeroValue137
  t76 := Tryz.underlying138
  a76 := Tryz.isAgg138
  z76 := Tryz.sizeOf138
  v76 := Tryz.zeroValue138
  t85 := Tryz.underlying163
  a85 := Tryz.isAgg163
  z85 := Tryz.sizeOf163
  v85 := Tryz.zeroValue163
  t127 := Tryz.underlying150
  a127 := Tryz.isAgg150
  z127 := Tryz.sizeOf150
  v127 := Tryz.zeroValue150
  t143 := Tryz.underlying182
  a143 := Tryz.isAgg182
  z143 := Tryz.sizeOf182
  v143 := Tryz.zeroValue182
  t145 := Tryz.underlying184
  a145 := Tryz.isAgg184
  z145 := Tryz.sizeOf184
  v145 := Tryz.zeroValue184
  t167 := Tryz.underlying162
  a167 := Tryz.isAgg162
  z167 := Tryz.sizeOf162
  v167 := Tryz.zeroValue162
  t168 := Tryz.underlying165
  a168 := Tryz.isAgg165
  z168 := Tryz.sizeOf165
  v168 := Tryz.zeroValue165
  t171 := Tryz.underlying156
  a171 := Tryz.isAgg156
  z171 := Tryz.sizeOf156
  v171 := Tryz.zeroValue156
  t173 := Tryz.underlying160
  a173 := Tryz.isAgg160
  z173 := Tryz.sizeOf160
  v173 := Tryz.zeroValue160
  t175 := Tryz.underlying174
  a175 := Tryz.isAgg174
  z175 := Tryz.sizeOf174
  v175 := Tryz.zeroValue174
  t210 := Tryz.underlying178
  a210 := Tryz.isAgg178
  z210 := Tryz.sizeOf178
  v210 := Tryz.zeroValue178
  t212 := Tryz.underlying169
  a212 := Tryz.isAgg169
  z212 := Tryz.sizeOf169
  v212 := Tryz.zeroValue169
  t213 := Tryz.underlying171
  a213 := Tryz.isAgg171
  z213 := Tryz.sizeOf171
  t232 := Tryz.underlying185
  a232 := Tryz.isAgg185
  z232 := Tryz.sizeOf185
  v232 := Tryz.zeroValue185
  t233 := Tryz.underlying186
  a233 := Tryz.isAgg186
  z233 := Tryz.sizeOf186
  v233 := Tryz.zeroValue186
  g15 := by kernel_rfl
  g16 := by kernel_rfl
  g17 := by kernel_rfl
  g18 := by kernel_rfl
  g19 := by kernel_rfl
  t80 := Tryz.underlying140
  a80 := Tryz.isAgg140
  z80 := Tryz.sizeOf140
  v80 := Tryz.zeroValue140
  i0 := by kernel_rfl
  i2 := by kernel_rfl
  i3 := by kernel_rfl
  i4 := by kernel_rfl
  i5 := by kernel_rfl
  i9 := by kernel_rfl
  i20 := by kernel_rfl
  i21 := by kernel_rfl
  i37 := by kernel_rfl
  i46 := by kernel_rfl
  i51 := by kernel_rfl
  i53 := by kernel_rfl
  i75 := by kernel_rfl
  i76 := by kernel_rfl
  i80 := by kernel_rfl
  i85 := by kernel_rfl
  i127 := by kernel_rfl
  i143 := by kernel_rfl
  i145 := by kernel_rfl
  i167 := by kernel_rfl
  i168 := by kernel_rfl
  i171 := by kernel_rfl
  i173 := by kernel_rfl
  i175 := by kernel_rfl
  i210 := by kernel_rfl
  i212 := by kernel_rfl
  i232 := by kernel_rfl
  i233 := by kernel_rfl
  m15 := by kernel_rfl
  m16 := by kernel_rfl
  m17 := by kernel_rfl
  m18 := by kernel_rfl
  m19 := by kernel_rfl
  c0 := by kernel_rfl
  c2 := by kernel_rfl
  c3 := by kernel_rfl
  c4 := by kernel_rfl
  c5 := by kernel_rfl
  c9 := by kernel_rfl
  c20 := by kernel_rfl
  c21 := by kernel_rfl
  c37 := by kernel_rfl
  c46 := by kernel_rfl
  c51 := by kernel_rfl
  c53 := by kernel_rfl
  c75 := by kernel_rfl
  c76 := by kernel_rfl
  c80 := by kernel_rfl
  c85 := by kernel_rfl
  c127 := by kernel_rfl
  c143 := by kernel_rfl
  c145 := by kernel_rfl
  c167 := by kernel_rfl
  c168 := by kernel_rfl
  c171 := by kernel_rfl
  c173 := by kernel_rfl
  c175 := by kernel_rfl
  c210 := by kernel_rfl
  c212 := by kernel_rfl
  c213 := by kernel_rfl
  c232 := by kernel_rfl
  c233 := by kernel_rfl }
open Go.RowKit in
theorem Tryz.strconv_Atoi_ok (s : ByteArray) (hmax : s.size ≤ 9223372036854775806) (v : Int) (h : Lib.atoiAll s.data.toList = .ok v) (w : World) :
    Calls Tryz.prog 113 #[.string s] w fun e w' => e = .returned (.tuple #[.int .i64 v, .nilIface]) ∧ (w' = w ∨ ∃ t, w' = Lib.bytesWorld w 5 t) := Any.strconv_Atoi_ok Tryz.laysC172 s hmax v h w
end Go.Proofs

namespace Go.Proofs.YtkhcfhhejmkikaaGreatDoor
open Go.RowKit
set_option maxRecDepth 100000

/-- The library's variables stand in the world. -/
structure NTabs (w : World) : Prop where
  syn : ∃ tp p, w.cell? ⟨5, 0, none⟩ = some (.iface tp p)
  rng : ∃ tp p, w.cell? ⟨6, 0, none⟩ = some (.iface tp p)
  pow : Lib.TabIs Tryz.prog w "internal/strconv.uint64pow10" .u64 Lib.pow10Tab
  size : 8 ≤ w.heap.size

theorem NTabs.below {w w' : World} (T : NTabs w) (hb : Below w.heap.size w w') : NTabs w' := by
  obtain ⟨t1, p1, h1⟩ := T.syn
  obtain ⟨t2, p2, h2⟩ := T.rng
  have hsz := T.size
  refine ⟨⟨t1, p1, ?_⟩, ⟨t2, p2, ?_⟩, ?_, by have := hb.size; omega⟩
  · rw [hb.cell (p := ⟨5, 0, none⟩) (by show 5 < w.heap.size; omega)]; exact h1
  · rw [hb.cell (p := ⟨6, 0, none⟩) (by show 6 < w.heap.size; omega)]; exact h2
  · exact var?_below hb (show Tryz.prog.globalNamed "internal/strconv.uint64pow10" = some 4 by kernel_rfl) (by omega) T.pow

/-- The walk's post: a number, and new blocks at most. -/
def IntBelow (n : Int) (w : World) (e : Ending) (w' : World) : Prop := e = .returned (.int .i64 n) ∧ Below w.heap.size w w'
def BoolBelow (b : Bool) (w : World) (e : Ending) (w' : World) : Prop := e = .returned (.bool b) ∧ Below w.heap.size w w'

set_option maxHeartbeats 1000000 in
theorem numberIn_any (s : ByteArray) (w : World) (hs : s.size ≤ 1048576) (T : NTabs w) :
    Calls Tryz.prog 91 #[.string s] w (IntBelow (numB s.data.toList) w) := by
  cases hat : Lib.atoiAll s.data.toList with
  | ok v =>
    have CA := Lib.hid (Tryz.strconv_Atoi_ok s (by omega) v hat w)
    have hbd := Lib.atoiAll_bounds hat
    have hmem : ∀ w', (w' = w ∨ ∃ t, w' = Lib.bytesWorld w 5 t) → Below w.heap.size w w' := by
      rintro w' (rfl | ⟨t, rfl⟩)
      · exact Below.refl _ _
      · exact Go.Joins.below_bytesWorld _ _ _ _ (Nat.le_refl _)
    by_cases h0 : v < 0
    · have hno : numB s.data.toList = -1 := numB_not (fun v' h' h0' => by rw [hat] at h'; cases h'; omega)
      rw [hno]
      clear hat hno
      go_enter Tryz.func91, Tryz.ntmps91
      go_wp2_with fail
      refine CA.out.mono ?_
      rintro e w' ⟨rfl, hw⟩
      have hb := hmem w' hw
      clear hw hmem
      go_wp2
      go_ret
      exact ⟨rfl, hb⟩
    by_cases h1 : 255 < v
    · have hno : numB s.data.toList = -1 := numB_not (fun v' h' h0' => by rw [hat] at h'; cases h'; omega)
      rw [hno]
      clear hat hno
      go_enter Tryz.func91, Tryz.ntmps91
      go_wp2_with fail
      refine CA.out.mono ?_
      rintro e w' ⟨rfl, hw⟩
      have hb := hmem w' hw
      clear hw hmem
      go_wp2
      go_ret
      exact ⟨rfl, hb⟩
    have h0' : 0 ≤ v := by omega
    have h1' : v ≤ 255 := by omega
    clear h0 h1
    have CI := fun W hp => Lib.hid (Tryz.strconv_Itoa v (by omega) (by omega) W hp)
    by_cases he : Lib.itoa v = s.data.toList
    · have hyes := Lib.hid (numB_of_atoi h0' h1' he)
      have hse : (⟨(Lib.itoa v).toArray⟩ : ByteArray) = s := by rw [he]
      have e1 := str_eq_true hse
      generalize (⟨(Lib.itoa v).toArray⟩ : ByteArray) = r at *
      clear he hse hat hbd
      go_enter Tryz.func91, Tryz.ntmps91
      go_wp2_with fail
      refine CA.out.mono ?_
      rintro e w' ⟨rfl, hw⟩
      have hb := hmem w' hw
      clear hw hmem
      go_wp2_with fail
      refine (CI w' (T.below hb).pow).out.mono ?_
      rintro e w2 ⟨rfl, k, os, hw2⟩
      have hb2 : Below w.heap.size w w2 := by
        subst hw2
        exact hb.trans ((Lib.below_grow w'.heap.size w' (Nat.le_refl _) k os).mono hb.size)
      clear hb hw2
      go_wp2
      go_ret
      exact ⟨ret_int hyes.out.symm, hb2⟩
    · have hno := Lib.hid (numB_not (fun v' h' _ _ => by rw [hat] at h'; cases h'; exact he))
      have hse : (⟨(Lib.itoa v).toArray⟩ : ByteArray) ≠ s := by rintro rfl; exact he rfl
      have e1 := str_eq_false hse
      generalize (⟨(Lib.itoa v).toArray⟩ : ByteArray) = r at *
      clear he hse hat hbd
      go_enter Tryz.func91, Tryz.ntmps91
      go_wp2_with fail
      refine CA.out.mono ?_
      rintro e w' ⟨rfl, hw⟩
      have hb := hmem w' hw
      clear hw hmem
      go_wp2_with fail
      refine (CI w' (T.below hb).pow).out.mono ?_
      rintro e w2 ⟨rfl, k, os, hw2⟩
      have hb2 : Below w.heap.size w w2 := by
        subst hw2
        exact hb.trans ((Lib.below_grow w'.heap.size w' (Nat.le_refl _) k os).mono hb.size)
      clear hb hw2
      go_wp2
      go_ret
      exact ⟨ret_int hno.out.symm, hb2⟩
  | _ =>
    have hno : numB s.data.toList = -1 := numB_not (fun v' h' => by rw [hat] at h'; cases h')
    rw [hno]
    obtain ⟨t1, p1, c1⟩ := T.syn
    obtain ⟨t2, p2, c2⟩ := T.rng
    first
      | (have CA := Lib.hid (Any.strconv_Atoi_syntax Tryz.laysC172 s (by omega) hat _ w c1 (Or.inr ⟨t1, p1, rfl⟩)))
      | (have CA := Lib.hid (Any.strconv_Atoi_range Tryz.laysC172 s (by omega) hat _ w c2 (Or.inr ⟨t2, p2, rfl⟩)))
    clear hat hno T c1 c2
    go_enter Tryz.func91, Tryz.ntmps91
    go_wp2_with fail
    refine CA.out.mono ?_
    rintro e w' ⟨N, rfl, hN, _, hb⟩
    clear hN
    go_wp2
    go_ret
    exact ⟨rfl, hb⟩

/-- The text is a sign. -/
def signB (s : ByteArray) : Bool := if h : s.size = 1 then cls (s[0]'(by omega)).toNat == 3 else false
theorem kindN_three (b : UInt8) : (kindN b.toNat == 3) = (cls b.toNat == 3) := by
  have := kindN_cls b.toNat (by have := b.toNat_lt; omega)
  rw [this]
  by_cases h : cls b.toNat = 4
  · rw [if_pos h, h]; rfl
  · rw [if_neg h]
set_option maxHeartbeats 400000 in
theorem isSign_any (s : ByteArray) (w : World) (T : Tabs w) :
    Calls Tryz.prog 92 #[.string s] w fun e w' => e = .returned (.bool (signB s)) ∧ w = w' := by
  by_cases h1 : s.size = 1
  · have e1 : ((s.size : Int) == 1) = true := by rw [beq_iff_eq]; omega
    have hpos : 0 < s.size := by omega
    have hb : signB s = (kindN (s[0]'hpos).toNat == 3) := by unfold signB; rw [dif_pos h1, kindN_three]
    rw [hb]
    clear hb h1
    have C := Lib.hid (kindOfByte_any s[0] w T)
    generalize kindN s[0].toNat = z at *
    go_enter Tryz.func92, Tryz.ntmps92
    go_wp2_with fail
    refine C.out.mono ?_
    rintro e w' ⟨rfl, rfl⟩
    go_wp2
    go_ret
    exact ⟨rfl, rfl⟩
  · have e1 : ((s.size : Int) == 1) = false := by rw [beq_eq_false_iff_ne]; omega
    have hb : signB s = false := by unfold signB; rw [dif_neg h1]
    rw [hb]
    clear hb h1
    go_enter Tryz.func92, Tryz.ntmps92
    go_wp2
    go_ret
    exact ⟨rfl, rfl⟩

/-- The word is one of its kind. -/
noncomputable def validB (n : Int) (s : ByteArray) : Bool :=
  if n = 1 then nameB s else if n = 2 then decide (0 ≤ numB s.data.toList) else if n = 3 then signB s else if n = 4 then isKeyB s else false

set_option maxHeartbeats 1000000 in
theorem implWordValid_any (n : Int) (s : ByteArray) (w : World) (hs : s.size ≤ 1048576) (T : Tabs w) (N : NTabs w) :
    Calls Tryz.prog 54 #[.agg #[.int .i64 n, .string s]] w (BoolBelow (validB n s) w) := by
  have hsz := N.size
  have hb0 : Below w.heap.size w (w.alloc (.cells #[.int .i64 n, .string s] 76)) := (Below.refl _ _).alloc (Nat.le_refl _) _
  have T1 := T.below hb0
  have N1 := N.below hb0
  unfold validB
  by_cases h1 : n = 1
  · subst h1
    rw [if_pos rfl]
    have C := Lib.hid (implIsName_any s _ T1)
    generalize nameB s = b at *
    go_enter Tryz.func54, Tryz.ntmps54
    go_wp2_with fail
    refine C.out.mono ?_
    rintro e w' ⟨rfl, rfl⟩
    go_wp2
    go_ret
    exact ⟨rfl, hb0⟩
  by_cases h2 : n = 2
  · subst h2
    rw [if_neg (by omega), if_pos rfl]
    have C := Lib.hid (numberIn_any s _ hs N1)
    have hr := numB_range s.data.toList
    generalize numB s.data.toList = z at *
    go_enter Tryz.func54, Tryz.ntmps54
    go_wp2_with fail
    refine C.out.mono ?_
    rintro e w' ⟨rfl, hb⟩
    have hb2 := hb0.trans (hb.mono hb0.size)
    clear hb hb0
    go_wp2
    go_ret
    exact ⟨rfl, hb2⟩
  by_cases h3 : n = 3
  · subst h3
    rw [if_neg (by omega), if_neg (by omega), if_pos rfl]
    have C := Lib.hid (isSign_any s _ T1)
    generalize signB s = b at *
    go_enter Tryz.func54, Tryz.ntmps54
    go_wp2_with fail
    refine C.out.mono ?_
    rintro e w' ⟨rfl, rfl⟩
    go_wp2
    go_ret
    exact ⟨rfl, hb0⟩
  by_cases h4 : n = 4
  · subst h4
    rw [if_neg (by omega), if_neg (by omega), if_neg (by omega), if_pos rfl]
    have C := Lib.hid (isKey_any s _ T1)
    generalize isKeyB s = b at *
    go_enter Tryz.func54, Tryz.ntmps54
    go_wp2_with fail
    refine C.out.mono ?_
    rintro e w' ⟨rfl, rfl⟩
    go_wp2
    go_ret
    exact ⟨rfl, hb0⟩
  · rw [if_neg h1, if_neg h2, if_neg h3, if_neg h4]
    have b1 : (n == 1) = false := by rw [beq_eq_false_iff_ne]; exact h1
    have b2 : (n == 2) = false := by rw [beq_eq_false_iff_ne]; exact h2
    have b3 : (n == 3) = false := by rw [beq_eq_false_iff_ne]; exact h3
    have b4 : (n == 4) = false := by rw [beq_eq_false_iff_ne]; exact h4
    clear h1 h2 h3 h4
    go_enter Tryz.func54, Tryz.ntmps54
    go_wp2
    go_ret
    exact ⟨rfl, hb0⟩
end Go.Proofs.YtkhcfhhejmkikaaGreatDoor
