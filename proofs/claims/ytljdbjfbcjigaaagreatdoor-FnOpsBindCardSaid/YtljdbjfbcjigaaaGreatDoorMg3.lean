/-
  Words in memory: a slice of words that reads as a list; what the laws' own helpers on words return.
-/
import Derived.Test.YtljdbjfbcjigaaaGreatDoorMg1
import Derived.Test.YtljdbjfbcjigaaaGreatDoorMg2
import Derived.Shelf.Strings.Builder1
import Derived.Shelf.Strings.Builder2
import Derived.Shelf.Strings.OnBuilder
import Derived.Shelf.Strconv.Atoi
import Derived.Shelf.Strconv.Itoa0
import Derived.Shelf.Strconv.Itoa1
import Derived.Shelf.LaysM
import Derived.Shelf.Strconv.Itoa2
import Derived.Shelf.Strconv.Itoa3
import Derived.Shelf.Strconv.AtoiErrFast
import Derived.Shelf.Strconv.ParseIntEmpty
import Derived.Shelf.Strconv.AtoiFail
import Derived.Shelf.Strconv.Clone
import Derived.Shelf.Strconv.SyntaxError
import Derived.Shelf.LaysC
import Derived.Shelf.Strconv.ToError
import Derived.Shelf.Strconv.Lower
import Derived.Shelf.Strconv.ParseUint10
import Derived.Shelf.Strconv.ParseUint10Empty
import Derived.Shelf.Strconv.ParseUint10Any
import Derived.Shelf.Strconv.ParseInt10
import Derived.Shelf.Strconv.AtoiLong
import Derived.Shelf.Strconv.AtoiInnerAll
import Derived.Shelf.Strconv.RangeError
import Derived.Shelf.Strconv.ToErrorRange
import Derived.Shelf.Strconv.AtoiAll
import Derived.Shelf.Strconv.ErrVarAll
import Derived.Test.YtljdbjfbcjigaaaGreatDoorProg
import Derived.Lib.SmallJoins
import Derived.Lib.AppendIntMem
import Derived.Test.YtljdbjfbcjigaaaGreatDoorChecked
import Derived.WalkKit
import Derived.LoopTactic
import Derived.Lib.Hide
import Derived.Outline
import Derived.BigQuiet
import Derived.Deep.QuietTactic
import Derived.WalkSpells
import Derived.WalkLawsBesides
import Derived.Handy
import Derived.Deep.RegionHeld3
namespace Go.Proofs
open Go.Shelf
def Tryz.lays156_ren : Go.Shelf.Ren := ⟨fun | 156 => 95 | 165 => 152 | 166 => 153 | 169 => 154 | 240 => 202 | 241 => 203 | 276 => 233 | 277 => 234 | n => n, fun | 31 => 67 | 9 => 9 | 3 => 3 | 4 => 4 | 0 => 0 | 20 => 20 | 72 => 213 | 76 => 215 | 70 => 211 | 37 => 50 | 75 => 116 | 127 => 271 | 164 => 194 | 5 => 5 | 80 => 217 | n => n, fun | n => n⟩
theorem Tryz.lays156 : Go.Proofs.Lays.n156 Tryz.prog Tryz.lays156_ren := {
  mixed := by kernel_rfl
  f156 := Tryz.func95.trans (congrArg some (by kernel_rfl))
  f165 := Tryz.func152.trans (congrArg some (by kernel_rfl))
  f166 := Tryz.func153.trans (congrArg some (by kernel_rfl))
  f169 := Tryz.func154.trans (congrArg some (by kernel_rfl))
  f240 := Tryz.func202.trans (congrArg some (by kernel_rfl))
  f241 := Tryz.func203.trans (congrArg some (by kernel_rfl))
  f276 := Tryz.func233.trans (congrArg some (by kernel_rfl))
  f277 := Tryz.func234.trans (congrArg some (by kernel_rfl))
  t0 := Tryz.underlying0
  a0 := Tryz.isAgg0
  z0 := Tryz.sizeOf0
  v0 := Tryz.zeroValue0
  t3 := Tryz.underlying3
  a3 := Tryz.isAgg3
  z3 := Tryz.sizeOf3
  v3 := Tryz.zeroValue3
  t4 := Tryz.underlying4
  a4 := Tryz.isAgg4
  z4 := Tryz.sizeOf4
  v4 := Tryz.zeroValue4
  t9 := Tryz.underlying9
  a9 := Tryz.isAgg9
  z9 := Tryz.sizeOf9
  v9 := Tryz.zeroValue9
  t20 := Tryz.underlying20
  a20 := Tryz.isAgg20
  z20 := Tryz.sizeOf20
  v20 := Tryz.zeroValue20
  t31 := Tryz.underlying67
  a31 := Tryz.isAgg67
  z31 := Tryz.sizeOf67
  v31 := Tryz.zeroValue67
  t37 := Tryz.underlying50
  a37 := Tryz.isAgg50
  z37 := Tryz.sizeOf50
  v37 := Tryz.zeroValue50
  t70 := Tryz.underlying211
  a70 := Tryz.isAgg211
  z70 := Tryz.sizeOf211
  v70 := Tryz.zeroValue211
  t72 := Tryz.underlying213
  a72 := Tryz.isAgg213
  z72 := Tryz.sizeOf213
  v72 := Tryz.zeroValue213
  t75 := Tryz.underlying116
  a75 := Tryz.isAgg116
  z75 := Tryz.sizeOf116
  v75 := Tryz.zeroValue116
  t76 := Tryz.underlying215
  a76 := Tryz.isAgg215
  z76 := Tryz.sizeOf215
  v76 := Tryz.zeroValue215
  t127 := Tryz.underlying271
  a127 := Tryz.isAgg271
  z127 := Tryz.sizeOf271
  v127 := Tryz.zeroValue271
  t164 := Tryz.underlying194
  a164 := Tryz.isAgg194
  z164 := Tryz.sizeOf194
  v164 := Tryz.zeroValue194 }
theorem Tryz.Builder_Extra_156 : Builder.Extra Tryz.prog Tryz.lays156_ren := {
  sizeBuilder := by kernel_rfl
  liesBuilder := by kernel_rfl
  t5 := Tryz.underlying5
  a5 := Tryz.isAgg5
  z5 := Tryz.sizeOf5
  v5 := Tryz.zeroValue5
  infoByte := by kernel_rfl
  cellsByte := by kernel_rfl
  sizeByte := by kernel_rfl
  neB5 := by decide }
open Go.RowKit in
theorem Tryz.strings_Join_none (a : Option Addr) (c : Nat) (sep : ByteArray) (w : World) :
    Calls Tryz.prog 95 #[.slice a 0 c, .string sep] w fun e w' => e = .returned (.string ⟨#[]⟩) ∧ w' = w := Any.strings_Join_none Tryz.lays156 Tryz.Builder_Extra_156 a c sep w
open Go.RowKit in
theorem Tryz.strings_Join (bk o c : Nat) (xs : List ByteArray) (sep : ByteArray) (w : World) (hcells : ∀ (j : Nat) x, xs[j]? = some x → w.cell? ⟨bk, o + j, none⟩ = some (.string x)) (hbk : bk < w.heap.size) (hN : xs.length ≤ 140737488355328) (hcap : xs.length ≤ c) (hlen : (Lib.join (xs.map (·.data.toList)) sep.data.toList).length ≤ 140737488355328) :
    Calls Tryz.prog 95 #[.slice (some ⟨bk, o, none⟩) xs.length c, .string sep] w fun e w' => e = .returned (.string ⟨(Lib.join (xs.map (·.data.toList)) sep.data.toList).toArray⟩) ∧ Below w.heap.size w w' := Any.strings_Join Tryz.lays156 Tryz.Builder_Extra_156 bk o c xs sep w hcells hbk hN hcap hlen
def Tryz.laysM171_ren : Go.Shelf.Ren := ⟨fun | 171 => 98 | 243 => 155 | 246 => 204 | 283 => 235 | 284 => 236 | 285 => 237 | 286 => 238 | 129 => 260 | 317 => 259 | 318 => 261 | 319 => 262 | 320 => 263 | 337 => 284 | 338 => 285 | n => n, fun | 3 => 3 | 9 => 9 | 2 => 2 | 4 => 4 | 171 => 304 | 0 => 0 | 53 => 305 | 37 => 50 | 5 => 5 | 173 => 308 | 212 => 336 | 51 => 337 | 20 => 20 | 213 => 338 | 46 => 339 | 232 => 377 | 233 => 378 | n => n, fun | 17 => 7 | 18 => 10 | 19 => 11 | n => n⟩
theorem Tryz.laysM171 : Go.Proofs.LaysM.n171 Tryz.prog Tryz.laysM171_ren := {
  mixed := by kernel_rfl
  f129 := Tryz.func260.trans (congrArg some (by kernel_rfl))
  f171 := Tryz.func98.trans (congrArg some (by kernel_rfl))
  f243 := Tryz.func155.trans (congrArg some (by kernel_rfl))
  f246 := Tryz.func204.trans (congrArg some (by kernel_rfl))
  f283 := Tryz.func235.trans (congrArg some (by kernel_rfl))
  f284 := Tryz.func236.trans (congrArg some (by kernel_rfl))
  f285 := Tryz.func237.trans (congrArg some (by kernel_rfl))
  f286 := Tryz.func238.trans (congrArg some (by kernel_rfl))
  f317 := Tryz.func259.trans (congrArg some (by kernel_rfl))
  f318 := Tryz.func261.trans (congrArg some (by kernel_rfl))
  f319 := Tryz.func262.trans (congrArg some (by kernel_rfl))
  f320 := Tryz.func263.trans (congrArg some (by kernel_rfl))
  f337 := Tryz.func284.trans (congrArg some (by kernel_rfl))
  f338 := Tryz.func285.trans (congrArg some (by kernel_rfl))
  t0 := Tryz.underlying0
  a0 := Tryz.isAgg0
  z0 := Tryz.sizeOf0
  v0 := Tryz.zeroValue0
  t2 := Tryz.underlying2
  a2 := Tryz.isAgg2
  z2 := Tryz.sizeOf2
  v2 := Tryz.zeroValue2
  t3 := Tryz.underlying3
  a3 := Tryz.isAgg3
  z3 := Tryz.sizeOf3
  v3 := Tryz.zeroValue3
  t4 := Tryz.underlying4
  a4 := Tryz.isAgg4
  z4 := Tryz.sizeOf4
  v4 := Tryz.zeroValue4
  t5 := Tryz.underlying5
  a5 := Tryz.isAgg5
  z5 := Tryz.sizeOf5
  v5 := Tryz.zeroValue5
  t9 := Tryz.underlying9
  a9 := Tryz.isAgg9
  z9 := Tryz.sizeOf9
  v9 := Tryz.zeroValue9
  t20 := Tryz.underlying20
  a20 := Tryz.isAgg20
  z20 := Tryz.sizeOf20
  v20 := Tryz.zeroValue20
  t37 := Tryz.underlying50
  a37 := Tryz.isAgg50
  z37 := Tryz.sizeOf50
  v37 := Tryz.zeroValue50
  t46 := Tryz.underlying339
  a46 := Tryz.isAgg339
  z46 := Tryz.sizeOf339
  v46 := Tryz.zeroValue339
  t51 := Tryz.underlying337
  a51 := Tryz.isAgg337
  z51 := Tryz.sizeOf337
  v51 := Tryz.zeroValue337
  t53 := Tryz.underlying305
  a53 := Tryz.isAgg305
  z53 := Tryz.sizeOf305
  v53 := Tryz.zeroValue305
  t171 := Tryz.underlying304
  a171 := Tryz.isAgg304
  z171 := Tryz.sizeOf304
  v171 := Tryz.zeroValue304
  t173 := Tryz.underlying308
  a173 := Tryz.isAgg308
  z173 := Tryz.sizeOf308
  v173 := Tryz.zeroValue308
  t212 := Tryz.underlying336
  a212 := Tryz.isAgg336
  z212 := Tryz.sizeOf336
  v212 := Tryz.zeroValue336
  t213 := Tryz.underlying338
  a213 := Tryz.isAgg338
  z213 := Tryz.sizeOf338
  t232 := Tryz.underlying377
  a232 := Tryz.isAgg377
  z232 := Tryz.sizeOf377
  v232 := Tryz.zeroValue377
  t233 := Tryz.underlying378
  a233 := Tryz.isAgg378
  z233 := Tryz.sizeOf378
  v233 := Tryz.zeroValue378
  g17 := by kernel_rfl
  g18 := by kernel_rfl
  g19 := by kernel_rfl
  i0 := by kernel_rfl
  i2 := by kernel_rfl
  i3 := by kernel_rfl
  i4 := by kernel_rfl
  i5 := by kernel_rfl
  i9 := by kernel_rfl
  i20 := by kernel_rfl
  i37 := by kernel_rfl
  i46 := by kernel_rfl
  i51 := by kernel_rfl
  i53 := by kernel_rfl
  i171 := by kernel_rfl
  i173 := by kernel_rfl
  i212 := by kernel_rfl
  i232 := by kernel_rfl
  i233 := by kernel_rfl
  m17 := by kernel_rfl
  m18 := by kernel_rfl
  m19 := by kernel_rfl }
open Go.RowKit Go.Sort Go.Lib in
theorem Tryz.strconv_Itoa (n : Int) (h0 : -9223372036854775808 ≤ n) (h1 : n ≤ 9223372036854775807) (w : World) (htab : Lib.TabIs Tryz.prog w "internal/strconv.uint64pow10" .u64 Lib.pow10Tab) :
    Calls Tryz.prog 98 #[.int .i64 n] w fun e w' => e = .returned (.string ⟨(Lib.itoa n).toArray⟩) ∧ ∃ k os, w' = grow (w.drewN k) os := Any.strconv_Itoa Tryz.laysM171 n h0 h1 w htab
def Tryz.laysC172_ren : Go.Shelf.Ren := ⟨fun | 172 => 201 | 244 => 231 | 245 => 232 | 247 => 254 | 279 => 255 | 280 => 256 | 281 => 257 | 282 => 258 | 287 => 281 | 316 => 282 | 171 => 98 | 205 => 283 | 321 => 293 | 322 => 294 | 243 => 155 | 246 => 204 | 283 => 235 | 284 => 236 | 285 => 237 | 286 => 238 | 129 => 260 | 317 => 259 | 318 => 261 | 319 => 262 | 320 => 263 | 337 => 284 | 338 => 285 | n => n, fun | 9 => 9 | 3 => 3 | 75 => 116 | 76 => 215 | 4 => 4 | 5 => 5 | 167 => 330 | 37 => 50 | 0 => 0 | 85 => 331 | 2 => 2 | 168 => 333 | 53 => 305 | 175 => 359 | 46 => 339 | 210 => 362 | 127 => 271 | 145 => 376 | 143 => 374 | 21 => 21 | 171 => 304 | 173 => 308 | 212 => 336 | 51 => 337 | 20 => 20 | 213 => 338 | 232 => 377 | 233 => 378 | 80 => 217 | n => n, fun | 15 => 8 | 16 => 9 | 17 => 7 | 18 => 10 | 19 => 11 | n => n⟩
theorem Tryz.laysC172 : Go.Proofs.LaysC.n172 Tryz.prog Tryz.laysC172_ren := {
  mixed := by kernel_rfl
  f129 := Tryz.func260.trans (congrArg some (by kernel_rfl))
  f171 := Tryz.func98.trans (congrArg some (by kernel_rfl))
  f172 := Tryz.func201.trans (congrArg some (by kernel_rfl))
  f205 := Tryz.func283.trans (congrArg some (by kernel_rfl))
  f243 := Tryz.func155.trans (congrArg some (by kernel_rfl))
  f244 := Tryz.func231.trans (congrArg some (by kernel_rfl))
  f245 := Tryz.func232.trans (congrArg some (by kernel_rfl))
  f246 := Tryz.func204.trans (congrArg some (by kernel_rfl))
  f247 := Tryz.func254.trans (congrArg some (by kernel_rfl))
  f279 := Tryz.func255.trans (congrArg some (by kernel_rfl))
  f280 := Tryz.func256.trans (congrArg some (by kernel_rfl))
  f281 := Tryz.func257.trans (congrArg some (by kernel_rfl))
  f282 := Tryz.func258.trans (congrArg some (by kernel_rfl))
  f283 := Tryz.func235.trans (congrArg some (by kernel_rfl))
  f284 := Tryz.func236.trans (congrArg some (by kernel_rfl))
  f285 := Tryz.func237.trans (congrArg some (by kernel_rfl))
  f286 := Tryz.func238.trans (congrArg some (by kernel_rfl))
  f287 := Tryz.func281.trans (congrArg some (by kernel_rfl))
  f316 := Tryz.func282.trans (congrArg some (by kernel_rfl))
  f317 := Tryz.func259.trans (congrArg some (by kernel_rfl))
  f318 := Tryz.func261.trans (congrArg some (by kernel_rfl))
  f319 := Tryz.func262.trans (congrArg some (by kernel_rfl))
  f320 := Tryz.func263.trans (congrArg some (by kernel_rfl))
  f321 := Tryz.func293.trans (congrArg some (by kernel_rfl))
  f322 := Tryz.func294.trans (congrArg some (by kernel_rfl))
  f337 := Tryz.func284.trans (congrArg some (by kernel_rfl))
  f338 := Tryz.func285.trans (congrArg some (by kernel_rfl))
  t0 := Tryz.underlying0
  a0 := Tryz.isAgg0
  z0 := Tryz.sizeOf0
  v0 := Tryz.zeroValue0
  t2 := Tryz.underlying2
  a2 := Tryz.isAgg2
  z2 := Tryz.sizeOf2
  v2 := Tryz.zeroValue2
  t3 := Tryz.underlying3
  a3 := Tryz.isAgg3
  z3 := Tryz.sizeOf3
  v3 := Tryz.zeroValue3
  t4 := Tryz.underlying4
  a4 := Tryz.isAgg4
  z4 := Tryz.sizeOf4
  v4 := Tryz.zeroValue4
  t5 := Tryz.underlying5
  a5 := Tryz.isAgg5
  z5 := Tryz.sizeOf5
  v5 := Tryz.zeroValue5
  t9 := Tryz.underlying9
  a9 := Tryz.isAgg9
  z9 := Tryz.sizeOf9
  v9 := Tryz.zeroValue9
  t20 := Tryz.underlying20
  a20 := Tryz.isAgg20
  z20 := Tryz.sizeOf20
  v20 := Tryz.zeroValue20
  t21 := Tryz.underlying21
  a21 := Tryz.isAgg21
  z21 := Tryz.sizeOf21
  v21 := Tryz.zeroValue21
  t37 := Tryz.underlying50
  a37 := Tryz.isAgg50
  z37 := Tryz.sizeOf50
  v37 := Tryz.zeroValue50
  t46 := Tryz.underlying339
  a46 := Tryz.isAgg339
  z46 := Tryz.sizeOf339
  v46 := Tryz.zeroValue339
  t51 := Tryz.underlying337
  a51 := Tryz.isAgg337
  z51 := Tryz.sizeOf337
  v51 := Tryz.zeroValue337
  t53 := Tryz.underlying305
  a53 := Tryz.isAgg305
  z53 := Tryz.sizeOf305
  v53 := Tryz.zeroValue305
  t75 := Tryz.underlying116
  a75 := Tryz.isAgg116
  z75 := Tryz.sizeOf116
  v75 := Tryz.zeroValue116
  t76 := Tryz.underlying215
  a76 := Tryz.isAgg215
  z76 := Tryz.sizeOf215
  v76 := Tryz.zeroValue215
  t85 := Tryz.underlying331
  a85 := Tryz.isAgg331
  z85 := Tryz.sizeOf331
  v85 := Tryz.zeroValue331
  t127 := Tryz.underlying271
  a127 := Tryz.isAgg271
  z127 := Tryz.sizeOf271
  v127 := Tryz.zeroValue271
  t143 := Tryz.underlying374
  a143 := Tryz.isAgg374
  z143 := Tryz.sizeOf374
  v143 := Tryz.zeroValue374
  t145 := Tryz.underlying376
  a145 := Tryz.isAgg376
  z145 := Tryz.sizeOf376
  v145 := Tryz.zeroValue376
  t167 := Tryz.underlying330
  a167 := Tryz.isAgg330
  z167 := Tryz.sizeOf330
  v167 := Tryz.zeroValue330
  t168 := Tryz.underlying333
  a168 := Tryz.isAgg333
  z168 := Tryz.sizeOf333
  v168 := Tryz.zeroValue333
  t171 := Tryz.underlying304
  a171 := Tryz.isAgg304
  z171 := Tryz.sizeOf304
  v171 := Tryz.zeroValue304
  t173 := Tryz.underlying308
  a173 := Tryz.isAgg308
  z173 := Tryz.sizeOf308
  v173 := Tryz.zeroValue308
  t175 := Tryz.underlying359
  a175 := Tryz.isAgg359
  z175 := Tryz.sizeOf359
  v175 := Tryz.zeroValue359
  t210 := Tryz.underlying362
  a210 := Tryz.isAgg362
  z210 := Tryz.sizeOf362
  v210 := Tryz.zeroValue362
  t212 := Tryz.underlying336
  a212 := Tryz.isAgg336
  z212 := Tryz.sizeOf336
  v212 := Tryz.zeroValue336
  t213 := Tryz.underlying338
  a213 := Tryz.isAgg338
  z213 := Tryz.sizeOf338
  t232 := Tryz.underlying377
  a232 := Tryz.isAgg377
  z232 := Tryz.sizeOf377
  v232 := Tryz.zeroValue377
  t233 := Tryz.underlying378
  a233 := Tryz.isAgg378
  z233 := Tryz.sizeOf378
  v233 := Tryz.zeroValue378
  g15 := by kernel_rfl
  g16 := by kernel_rfl
  g17 := by kernel_rfl
  g18 := by kernel_rfl
  g19 := by kernel_rfl
  t80 := Tryz.underlying217
  a80 := Tryz.isAgg217
  z80 := Tryz.sizeOf217
  v80 := Tryz.zeroValue217
  i0 := by kernel_rfl
  i2 := by kernel_rfl
  i3 := by kernel_rfl
  i4 := by kernel_rfl
  i5 := by kernel_rfl
  i9 := by kernel_rfl
  i20 := by kernel_rfl
  i21 := by kernel_rfl
  i37 := by kernel_rfl
  i46 := by kernel_rfl
  i51 := by kernel_rfl
  i53 := by kernel_rfl
  i75 := by kernel_rfl
  i76 := by kernel_rfl
  i80 := by kernel_rfl
  i85 := by kernel_rfl
  i127 := by kernel_rfl
  i143 := by kernel_rfl
  i145 := by kernel_rfl
  i167 := by kernel_rfl
  i168 := by kernel_rfl
  i171 := by kernel_rfl
  i173 := by kernel_rfl
  i175 := by kernel_rfl
  i210 := by kernel_rfl
  i212 := by kernel_rfl
  i232 := by kernel_rfl
  i233 := by kernel_rfl
  m15 := by kernel_rfl
  m16 := by kernel_rfl
  m17 := by kernel_rfl
  m18 := by kernel_rfl
  m19 := by kernel_rfl
  c0 := by kernel_rfl
  c2 := by kernel_rfl
  c3 := by kernel_rfl
  c4 := by kernel_rfl
  c5 := by kernel_rfl
  c9 := by kernel_rfl
  c20 := by kernel_rfl
  c21 := by kernel_rfl
  c37 := by kernel_rfl
  c46 := by kernel_rfl
  c51 := by kernel_rfl
  c53 := by kernel_rfl
  c75 := by kernel_rfl
  c76 := by kernel_rfl
  c80 := by kernel_rfl
  c85 := by kernel_rfl
  c127 := by kernel_rfl
  c143 := by kernel_rfl
  c145 := by kernel_rfl
  c167 := by kernel_rfl
  c168 := by kernel_rfl
  c171 := by kernel_rfl
  c173 := by kernel_rfl
  c175 := by kernel_rfl
  c210 := by kernel_rfl
  c212 := by kernel_rfl
  c213 := by kernel_rfl
  c232 := by kernel_rfl
  c233 := by kernel_rfl }
open Go.RowKit in
theorem Tryz.strconv_Atoi_ok (s : ByteArray) (hmax : s.size ≤ 9223372036854775806) (v : Int) (h : Lib.atoiAll s.data.toList = .ok v) (w : World) :
    Calls Tryz.prog 201 #[.string s] w fun e w' => e = .returned (.tuple #[.int .i64 v, .nilIface]) ∧ (w' = w ∨ ∃ t, w' = Lib.bytesWorld w 5 t) := Any.strconv_Atoi_ok Tryz.laysC172 s hmax v h w
end Go.Proofs

namespace Go.Proofs.YtljdbjfbcjigaaaGreatDoor
open Go.RowKit
set_option maxRecDepth 100000

/-- The library's variables stand in the world. -/
structure NTabs (w : World) : Prop where
  syn : ∃ tp p, w.cell? ⟨8, 0, none⟩ = some (.iface tp p)
  rng : ∃ tp p, w.cell? ⟨9, 0, none⟩ = some (.iface tp p)
  pow : Lib.TabIs Tryz.prog w "internal/strconv.uint64pow10" .u64 Lib.pow10Tab
  size : 11 < w.heap.size

theorem NTabs.below {w w' : World} (T : NTabs w) (hb : Below w.heap.size w w') : NTabs w' := by
  obtain ⟨t1, p1, h1⟩ := T.syn
  obtain ⟨t2, p2, h2⟩ := T.rng
  have hsz := T.size
  refine ⟨⟨t1, p1, ?_⟩, ⟨t2, p2, ?_⟩, ?_, by have := hb.size; omega⟩
  · rw [hb.cell (p := ⟨8, 0, none⟩) (by show 8 < w.heap.size; omega)]; exact h1
  · rw [hb.cell (p := ⟨9, 0, none⟩) (by show 9 < w.heap.size; omega)]; exact h2
  · exact var?_below hb (show Tryz.prog.globalNamed "internal/strconv.uint64pow10" = some 7 by kernel_rfl) (by omega) T.pow

/-- The walk's post: a number, and new blocks at most. -/
def IntBelow (n : Int) (w : World) (e : Ending) (w' : World) : Prop := e = .returned (.int .i64 n) ∧ Below w.heap.size w w'
def BoolBelow (b : Bool) (w : World) (e : Ending) (w' : World) : Prop := e = .returned (.bool b) ∧ Below w.heap.size w w'

set_option maxHeartbeats 1000000 in
theorem numberIn_any (s : ByteArray) (w : World) (hs : s.size ≤ 1048576) (T : NTabs w) :
    Calls Tryz.prog 149 #[.string s] w (IntBelow (numB s.data.toList) w) := by
  cases hat : Lib.atoiAll s.data.toList with
  | ok v =>
    have CA := Lib.hid (Tryz.strconv_Atoi_ok s (by omega) v hat w)
    have hbd := Lib.atoiAll_bounds hat
    have hmem : ∀ w', (w' = w ∨ ∃ t, w' = Lib.bytesWorld w 5 t) → Below w.heap.size w w' := by
      rintro w' (rfl | ⟨t, rfl⟩)
      · exact Below.refl _ _
      · exact Go.Joins.below_bytesWorld _ _ _ _ (Nat.le_refl _)
    by_cases h0 : v < 0
    · have hno : numB s.data.toList = -1 := numB_not (fun v' h' h0' => by rw [hat] at h'; cases h'; omega)
      rw [hno]
      clear hat hno
      go_enter Tryz.func149, Tryz.ntmps149
      go_wp2_with fail
      refine CA.out.mono ?_
      rintro e w' ⟨rfl, hw⟩
      have hb := hmem w' hw
      clear hw hmem
      go_wp2
      go_ret
      exact ⟨rfl, hb⟩
    by_cases h1 : 255 < v
    · have hno : numB s.data.toList = -1 := numB_not (fun v' h' h0' => by rw [hat] at h'; cases h'; omega)
      rw [hno]
      clear hat hno
      go_enter Tryz.func149, Tryz.ntmps149
      go_wp2_with fail
      refine CA.out.mono ?_
      rintro e w' ⟨rfl, hw⟩
      have hb := hmem w' hw
      clear hw hmem
      go_wp2
      go_ret
      exact ⟨rfl, hb⟩
    have h0' : 0 ≤ v := by omega
    have h1' : v ≤ 255 := by omega
    clear h0 h1
    have CI := fun W hp => Lib.hid (Tryz.strconv_Itoa v (by omega) (by omega) W hp)
    by_cases he : Lib.itoa v = s.data.toList
    · have hyes := Lib.hid (numB_of_atoi h0' h1' he)
      have hse : (⟨(Lib.itoa v).toArray⟩ : ByteArray) = s := by rw [he]
      have e1 := str_eq_true hse
      generalize (⟨(Lib.itoa v).toArray⟩ : ByteArray) = r at *
      clear he hse hat hbd
      go_enter Tryz.func149, Tryz.ntmps149
      go_wp2_with fail
      refine CA.out.mono ?_
      rintro e w' ⟨rfl, hw⟩
      have hb := hmem w' hw
      clear hw hmem
      go_wp2_with fail
      refine (CI w' (T.below hb).pow).out.mono ?_
      rintro e w2 ⟨rfl, k, os, hw2⟩
      have hb2 : Below w.heap.size w w2 := by
        subst hw2
        exact hb.trans ((Lib.below_grow w'.heap.size w' (Nat.le_refl _) k os).mono hb.size)
      clear hb hw2
      go_wp2
      go_ret
      exact ⟨ret_int hyes.out.symm, hb2⟩
    · have hno := Lib.hid (numB_not (fun v' h' _ _ => by rw [hat] at h'; cases h'; exact he))
      have hse : (⟨(Lib.itoa v).toArray⟩ : ByteArray) ≠ s := by rintro rfl; exact he rfl
      have e1 := str_eq_false hse
      generalize (⟨(Lib.itoa v).toArray⟩ : ByteArray) = r at *
      clear he hse hat hbd
      go_enter Tryz.func149, Tryz.ntmps149
      go_wp2_with fail
      refine CA.out.mono ?_
      rintro e w' ⟨rfl, hw⟩
      have hb := hmem w' hw
      clear hw hmem
      go_wp2_with fail
      refine (CI w' (T.below hb).pow).out.mono ?_
      rintro e w2 ⟨rfl, k, os, hw2⟩
      have hb2 : Below w.heap.size w w2 := by
        subst hw2
        exact hb.trans ((Lib.below_grow w'.heap.size w' (Nat.le_refl _) k os).mono hb.size)
      clear hb hw2
      go_wp2
      go_ret
      exact ⟨ret_int hno.out.symm, hb2⟩
  | _ =>
    have hno : numB s.data.toList = -1 := numB_not (fun v' h' => by rw [hat] at h'; cases h')
    rw [hno]
    obtain ⟨t1, p1, c1⟩ := T.syn
    obtain ⟨t2, p2, c2⟩ := T.rng
    first
      | (have CA := Lib.hid (Any.strconv_Atoi_syntax Tryz.laysC172 s (by omega) hat _ w c1 (Or.inr ⟨t1, p1, rfl⟩)))
      | (have CA := Lib.hid (Any.strconv_Atoi_range Tryz.laysC172 s (by omega) hat _ w c2 (Or.inr ⟨t2, p2, rfl⟩)))
    clear hat hno T c1 c2
    go_enter Tryz.func149, Tryz.ntmps149
    go_wp2_with fail
    refine CA.out.mono ?_
    rintro e w' ⟨N, rfl, hN, _, hb⟩
    clear hN
    go_wp2
    go_ret
    exact ⟨rfl, hb⟩

/-- The text is a sign. -/
def signB (s : ByteArray) : Bool := if h : s.size = 1 then cls (s[0]'(by omega)).toNat == 3 else false
theorem kindN_three (b : UInt8) : (kindN b.toNat == 3) = (cls b.toNat == 3) := by
  have := kindN_cls b.toNat (by have := b.toNat_lt; omega)
  rw [this]
  by_cases h : cls b.toNat = 4
  · rw [if_pos h, h]; rfl
  · rw [if_neg h]
set_option maxHeartbeats 400000 in
theorem isSign_any (s : ByteArray) (w : World) (T : Tabs w) :
    Calls Tryz.prog 150 #[.string s] w fun e w' => e = .returned (.bool (signB s)) ∧ w = w' := by
  by_cases h1 : s.size = 1
  · have e1 : ((s.size : Int) == 1) = true := by rw [beq_iff_eq]; omega
    have hpos : 0 < s.size := by omega
    have hb : signB s = (kindN (s[0]'hpos).toNat == 3) := by unfold signB; rw [dif_pos h1, kindN_three]
    rw [hb]
    clear hb h1
    have C := Lib.hid (kindOfByte_any s[0] w T)
    generalize kindN s[0].toNat = z at *
    go_enter Tryz.func150, Tryz.ntmps150
    go_wp2_with fail
    refine C.out.mono ?_
    rintro e w' ⟨rfl, rfl⟩
    go_wp2
    go_ret
    exact ⟨rfl, rfl⟩
  · have e1 : ((s.size : Int) == 1) = false := by rw [beq_eq_false_iff_ne]; omega
    have hb : signB s = false := by unfold signB; rw [dif_neg h1]
    rw [hb]
    clear hb h1
    go_enter Tryz.func150, Tryz.ntmps150
    go_wp2
    go_ret
    exact ⟨rfl, rfl⟩

/-- The word is one of its kind. -/
noncomputable def validB (n : Int) (s : ByteArray) : Bool :=
  if n = 1 then nameB s else if n = 2 then decide (0 ≤ numB s.data.toList) else if n = 3 then signB s else if n = 4 then isKeyB s else false

set_option maxHeartbeats 1000000 in
theorem implWordValid_any (n : Int) (s : ByteArray) (w : World) (hs : s.size ≤ 1048576) (T : Tabs w) (N : NTabs w) :
    Calls Tryz.prog 94 #[.agg #[.int .i64 n, .string s]] w (BoolBelow (validB n s) w) := by
  have hsz := N.size
  have hb0 : Below w.heap.size w (w.alloc (.cells #[.int .i64 n, .string s] 138)) := (Below.refl _ _).alloc (Nat.le_refl _) _
  have T1 := T.below hb0
  have N1 := N.below hb0
  unfold validB
  by_cases h1 : n = 1
  · subst h1
    rw [if_pos rfl]
    have C := Lib.hid (implIsName_any s _ T1)
    generalize nameB s = b at *
    go_enter Tryz.func94, Tryz.ntmps94
    go_wp2_with fail
    refine C.out.mono ?_
    rintro e w' ⟨rfl, rfl⟩
    go_wp2
    go_ret
    exact ⟨rfl, hb0⟩
  by_cases h2 : n = 2
  · subst h2
    rw [if_neg (by omega), if_pos rfl]
    have C := Lib.hid (numberIn_any s _ hs N1)
    have hr := numB_range s.data.toList
    generalize numB s.data.toList = z at *
    go_enter Tryz.func94, Tryz.ntmps94
    go_wp2_with fail
    refine C.out.mono ?_
    rintro e w' ⟨rfl, hb⟩
    have hb2 := hb0.trans (hb.mono hb0.size)
    clear hb hb0
    go_wp2
    go_ret
    exact ⟨rfl, hb2⟩
  by_cases h3 : n = 3
  · subst h3
    rw [if_neg (by omega), if_neg (by omega), if_pos rfl]
    have C := Lib.hid (isSign_any s _ T1)
    generalize signB s = b at *
    go_enter Tryz.func94, Tryz.ntmps94
    go_wp2_with fail
    refine C.out.mono ?_
    rintro e w' ⟨rfl, rfl⟩
    go_wp2
    go_ret
    exact ⟨rfl, hb0⟩
  by_cases h4 : n = 4
  · subst h4
    rw [if_neg (by omega), if_neg (by omega), if_neg (by omega), if_pos rfl]
    have C := Lib.hid (isKey_any s _ T1)
    generalize isKeyB s = b at *
    go_enter Tryz.func94, Tryz.ntmps94
    go_wp2_with fail
    refine C.out.mono ?_
    rintro e w' ⟨rfl, rfl⟩
    go_wp2
    go_ret
    exact ⟨rfl, hb0⟩
  · rw [if_neg h1, if_neg h2, if_neg h3, if_neg h4]
    have b1 : (n == 1) = false := by rw [beq_eq_false_iff_ne]; exact h1
    have b2 : (n == 2) = false := by rw [beq_eq_false_iff_ne]; exact h2
    have b3 : (n == 3) = false := by rw [beq_eq_false_iff_ne]; exact h3
    have b4 : (n == 4) = false := by rw [beq_eq_false_iff_ne]; exact h4
    clear h1 h2 h3 h4
    go_enter Tryz.func94, Tryz.ntmps94
    go_wp2
    go_ret
    exact ⟨rfl, hb0⟩
end Go.Proofs.YtljdbjfbcjigaaaGreatDoor

namespace Go.Proofs.YtljdbjfbcjigaaaGreatDoor
open Go.RowKit
set_option maxRecDepth 100000

theorem bcell {W w1 : World} (hb : Below W.heap.size W w1) : ∀ b o, b < W.heap.size → w1.cell? ⟨b, o, none⟩ = W.cell? ⟨b, o, none⟩ :=
  fun b o h => hb.cell (p := ⟨b, o, none⟩) h
theorem alloc_cell (w : World) (cs : Array Value) (t : TypeId) (fr : Nat × Nat) (k : Nat) : (w.alloc (.cells cs t fr)).cell? ⟨w.heap.size, k, none⟩ = cs[k]? := by
  have hb : (w.alloc (.cells cs t fr)).heap[w.heap.size]? = some (.cells cs t fr) := by
    show (w.heap.push (.cells cs t fr))[w.heap.size]? = _
    simp
  unfold World.cell?
  rw [hb]
  rfl
theorem alloc_frozen (w : World) (cs : Array Value) (t : TypeId) (k : Nat) : (w.alloc (.cells cs t (0, 0))).frozen? ⟨w.heap.size, k, none⟩ = false :=
  frozen_of_row _ _ k cs t (by show (w.heap.push (.cells cs t (0, 0)))[w.heap.size]? = _; simp)
/-- What szWord returns. -/
def szW (s : ByteArray) (left : Int) : Int := if left - s.size < 0 then -1 else left - s.size



/-- A slice of words that reads as a list; below block B. -/
def Words (w : World) (B : Nat) (A : Option Addr) (ws : List (Int × ByteArray)) : Prop :=
  ws ≠ [] → ∃ b o, A = some ⟨b, o, none⟩ ∧ b < B ∧ ∀ k, (h : k < ws.length) → w.cell? ⟨b, o + k * 2, none⟩ = some (.int .i64 ws[k].1) ∧ w.cell? ⟨b, o + k * 2 + 1, none⟩ = some (.string ws[k].2)
theorem Words.at_ {w : World} {B : Nat} {A : Option Addr} {ws : List (Int × ByteArray)} (h : Words w B A ws) {k : Nat} (hk : k < ws.length) :
    ∃ b o, A = some ⟨b, o, none⟩ ∧ b < B ∧ w.cell? ⟨b, o + k * 2, none⟩ = some (.int .i64 ws[k].1) ∧ w.cell? ⟨b, o + k * 2 + 1, none⟩ = some (.string ws[k].2) := by
  obtain ⟨b, o, e, hb, hc⟩ := h (by intro e; subst e; simp at hk)
  exact ⟨b, o, e, hb, (hc k hk).1, (hc k hk).2⟩
theorem Words.below {w w' : World} {B : Nat} {A : Option Addr} {ws : List (Int × ByteArray)} (h : Words w B A ws) (hb : Below B w w') : Words w' B A ws := by
  intro hne
  obtain ⟨b, o, e, hB, hc⟩ := h hne
  exact ⟨b, o, e, hB, fun k hk => ⟨(hb.cell (p := ⟨b, _, none⟩) hB).trans (hc k hk).1, (hb.cell (p := ⟨b, _, none⟩) hB).trans (hc k hk).2⟩⟩
theorem Words.more {w : World} {B B' : Nat} {A : Option Addr} {ws : List (Int × ByteArray)} (h : Words w B A ws) (hB : B ≤ B') : Words w B' A ws := by
  intro hne
  obtain ⟨b, o, e, hb, hc⟩ := h hne
  exact ⟨b, o, e, by omega, hc⟩
/-- What szWordS comes to behind k words. -/
def szTo (ws : List (Int × ByteArray)) (left : Int) : Nat → Int
  | 0 => left
  | k + 1 => szTo ws left k - (ws.getD k (0, ByteArray.empty)).2.size
theorem szTo_le (ws : List (Int × ByteArray)) (left : Int) (k : Nat) : szTo ws left k ≤ left := by
  induction k with
  | zero => exact Int.le_refl _
  | succ k ih => unfold szTo; omega


/-- The cells of words. -/
def wordCells : List (Int × ByteArray) → List Value
  | [] => []
  | x :: l => .int .i64 x.1 :: .string x.2 :: wordCells l
theorem wordCells_length (l : List (Int × ByteArray)) : (wordCells l).length = l.length * 2 := by
  induction l with
  | nil => rfl
  | cons x l ih => simp only [wordCells, List.length_cons, ih]; omega
theorem wordCells_at : ∀ (l : List (Int × ByteArray)) (k : Nat) (h : k < l.length), (wordCells l)[k * 2]? = some (.int .i64 l[k].1) ∧ (wordCells l)[k * 2 + 1]? = some (.string l[k].2)
  | [], k, h => absurd h (by simp)
  | x :: l, 0, _ => ⟨rfl, rfl⟩
  | x :: l, k + 1, h => by
    have ih := wordCells_at l k (by simpa using h)
    have e1 : (k + 1) * 2 = k * 2 + 1 + 1 := by omega
    have e2 : (k + 1) * 2 + 1 = k * 2 + 1 + 1 + 1 := by omega
    refine ⟨?_, ?_⟩
    · rw [e1]; simpa [wordCells] using ih.1
    · rw [e2]; simpa [wordCells] using ih.2
theorem Words.of_own {w : World} {base : Nat} {e : TypeId} {g cap : Nat} {ws : List (Int × ByteArray)} (h : w.ownsRow base e 2 (.slice (some ⟨g, 0, none⟩) ws.length cap) ws.length (wordCells ws)) : Words w w.heap.size (some ⟨g, 0, none⟩) ws := by
  intro hne
  refine ⟨g, 0, rfl, (h.lt g rfl).2, fun k hk => ?_⟩
  have c := wordCells_at ws k hk
  exact ⟨by rw [Nat.zero_add, h.cellAt _ (by omega), c.1], by rw [Nat.zero_add, h.cellAt _ (by omega), c.2]⟩
/-- The cells behind k rounds: k words are there. -/
def partCells (ws : List (Int × ByteArray)) (k : Nat) (xs : List Value) : Prop := xs.length = ws.length * 2 ∧ ∀ j, j < k * 2 → xs[j]? = (wordCells ws)[j]?
theorem partCells_succ {ws : List (Int × ByteArray)} {k : Nat} {xs : List Value} (h : partCells ws k xs) (hk : k < ws.length) : partCells ws (k + 1) ((xs.set (k * 2) (.int .i64 ws[k].1)).set (k * 2 + 1) (.string ws[k].2)) := by
  refine ⟨by simpa using h.1, fun j hj => ?_⟩
  have hl := h.1
  have c := wordCells_at ws k hk
  rw [List.getElem?_set, List.getElem?_set]
  by_cases e1 : k * 2 + 1 = j
  · subst e1; rw [if_pos rfl, if_pos (by simp; omega)]; exact c.2.symm
  · rw [if_neg e1]
    by_cases e2 : k * 2 = j
    · subst e2; rw [if_pos rfl, if_pos (by omega)]; exact c.1.symm
    · rw [if_neg e2]; exact h.2 j (by omega)
theorem partCells_end {ws : List (Int × ByteArray)} {xs : List Value} (h : partCells ws ws.length xs) : xs = wordCells ws := by
  apply List.ext_getElem?
  intro j
  by_cases hj : j < ws.length * 2
  · exact h.2 j hj
  · rw [List.getElem?_eq_none (by have := h.1; omega), List.getElem?_eq_none (by rw [wordCells_length]; omega)]
theorem wordInfo : (Tryz.prog.info? 138).map (fun i => (i.zero, i.size, i.bytes)) = some (some (.agg #[.int .i64 0, .string ⟨#[]⟩]), 2, 24) := by kernel_rfl

end Go.Proofs.YtljdbjfbcjigaaaGreatDoor
