/-
  What the functions of chapter 1 that touch no memory of their own return.
-/
import Derived.ProofKit
import Derived.LaidMore
import Derived.OpenShut
import Derived.Stop.Joined
import Derived.Carry
import Derived.ChangeSame
import Derived.Lib.LaidTab
import Derived.WalkSmall
import Derived.MakeChecks
import Derived.WalkKit
import Derived.Test.YtkhcfhhejmkikaaGreatDoorChecked
import Derived.LoopTactic
import Derived.Lib.Hide
import Derived.Outline
import Derived.BigQuiet
import Derived.Deep.QuietTactic
import Derived.WalkSpells
import Derived.WalkLawsBesides
namespace Go.Proofs.YtkhcfhhejmkikaaGreatDoor
open Go.ChangeShapes Go.WideShapes Go.ChangeAt Go.RowKit Go.WideMaps

theorem law_args {H : Type} {enc : TypeId × Value → H} {P : Program} (hl : laidOutB P = true) {W W' : World} (hb : Below W.heap.size W W') (sp' : Nat → Bool) :
    ∀ {ts : List TypeId} {vs : List Value} {ds : List (DataW H)} {ps : List MemPlace}, (ts.all fun t => P.readableRec t && decide (t < P.types.size)) = true →
      DataW.TrodAll enc P W 0 (fun _ => true) true ts vs ds ps → (∀ p ∈ ps, p.block < W.heap.size) → (∀ p ∈ ps, sp' p.block = true) → DataW.TrodAll enc P W' 0 sp' true ts vs ds ps := by
  intro ts
  induction ts with
  | nil =>
    intro vs ds ps _ h _ _
    match vs, ds, h with
    | [], [], h => exact h
  | cons t ts ih =>
    intro vs ds ps hr h hlt hs
    match vs, ds, h with
    | v :: vs, d :: ds, ⟨p, q, h1, h2, e⟩ =>
      subst e
      simp only [List.all_cons, Bool.and_eq_true, decide_eq_true_eq] at hr
      refine ⟨p, q, ?_, ih hr.2 h2 (fun x hx => hlt x (List.mem_append_right _ hx)) (fun x hx => hs x (List.mem_append_right _ hx)), rfl⟩
      exact WideElems.Trod_stays hl hr.1.1 hr.1.2 h1 (fun x hx => hb.same (hlt x (List.mem_append_left _ hx))) (fun x hx => hs x (List.mem_append_left _ hx))

/-- The types of the variables can be read. -/
def varsFit (P : Program) (ns : List String) : Bool := ns.all fun n => match (P.globalNamed n).bind (fun g => P.globals[g]?) with
  | some x => P.readableRec x.type && decide (x.type < P.types.size)
  | none => false

theorem law_vars {H : Type} {enc : TypeId × Value → H} {P : Program} (hl : laidOutB P = true) {W W' : World} (hb : Below W.heap.size W W') (sp' : Nat → Bool) :
    ∀ {ns : List String} {gs : List (DataW H)} {ps : List MemPlace}, varsFit P ns = true →
      DataW.TrodVars enc P W (fun _ => true) ns gs ps → (∀ p ∈ ps, p.block < W.heap.size) → (∀ p ∈ ps, sp' p.block = true) → DataW.TrodVars enc P W' sp' ns gs ps := by
  intro ns
  induction ns with
  | nil =>
    intro gs ps _ h _ _
    match gs, h with
    | [], h => exact h
  | cons n ns ih =>
    intro gs ps hr h hlt hs
    match gs, h with
    | d :: gs, ⟨g, t, cs, fuel, p, q, h1, h2, h3, h4, h5, e⟩ =>
      subst e
      unfold varsFit at hr
      simp only [List.all_cons, Bool.and_eq_true] at hr
      have hv : ∃ x, P.globals[g]? = some x ∧ x.type = t := by
        cases hx : P.globals[g]? with
        | none => rw [hx] at h2; cases h2
        | some x => rw [hx] at h2; exact ⟨x, rfl, Option.some.inj h2⟩
      obtain ⟨x, hx, rfl⟩ := hv
      have hr1 := hr.1
      rw [h1, Option.bind_some, hx] at hr1
      simp only [Bool.and_eq_true, decide_eq_true_eq] at hr1
      have hg : g < W.heap.size := by
        unfold World.var? at h3
        simp only [h1, Option.bind_some] at h3
        by_cases hlt' : g < W.heap.size
        · exact hlt'
        · rw [Array.getElem?_eq_none (by omega)] at h3; cases h3
      have hp : ∀ x ∈ p, x ∈ MemPlace.row ⟨g, 0, none⟩ cs.size ++ p ++ q := fun x hx => List.mem_append_left _ (List.mem_append_right _ hx)
      have hq : ∀ x ∈ q, x ∈ MemPlace.row ⟨g, 0, none⟩ cs.size ++ p ++ q := fun x hx => List.mem_append_right _ hx
      refine ⟨g, _, cs, fuel, p, q, h1, h2, var?_below hb h1 hg h3, ?_, ih hr.2 h5 (fun x hx => hlt x (hq x hx)) (fun x hx => hs x (hq x hx)), rfl⟩
      exact DataW.trod_stays (kids_book hl hr1.1) (book_sized hr1.1) (fun h => by cases h) ⟨hr1.2, book_self _⟩ h4 (fun x hx => hb.same (hlt x (hp x hx))) (fun x hx => hs x (hp x hx))

/-- The law's last step. -/
theorem law_post {H : Type} {enc : TypeId × Value → H} {P : Program} {f : Func} {s : ChangeSpec} {apart fresh handsOn again : Bool} {W W' : World} {args : Array Value} {ds gs : List (DataW H)} {before : List MemPlace} {tb : TypeId}
    (hl : laidOutB P = true) (hr : (f.params.toList.all fun t => P.readableRec t && decide (t < P.types.size)) = true) (hv : varsFit P s.vars = true)
    (hres : f.resultTypes = #[tb]) (htb : P.underlying tb = some .bool) (hfn : s.fn H (ds ++ gs) = { results := [.lit (.bool true)], args := ds, vars := gs })
    (hW : DataW.Whole enc P f.params.toList s.vars apart W args.toList ds gs before) (hb : Below W.heap.size W W') :
    s.post enc P f apart fresh handsOn again W args (.bool true) W' := by
  have hWhole := hW
  obtain ⟨pa, pv, hA, hV, rfl, hz, hn⟩ := hW
  have hlt : ∀ p ∈ pa ++ pv, p.block < W.heap.size := fun p hp => hWhole.lt p hp
  have ha : ∀ p ∈ pa, p.block < W.heap.size := fun p hp => hlt p (List.mem_append_left _ hp)
  have hvv : ∀ p ∈ pv, p.block < W.heap.size := fun p hp => hlt p (List.mem_append_right _ hp)
  have R : ∀ (b : Nat) (sp : Nat → Bool) (hd : Bool), DataW.TrodAll enc P W' b sp hd f.resultTypes.toList ((Value.bool true).resultList f.resultTypes.size) (s.fn H (ds ++ gs)).results [] := by
    intro b sp hd
    rw [hres, hfn]
    exact trodAll_mk1 (shut_bool htb _)
  have hok : ∀ (j : Nat) (t : TypeId) (r : Value), f.resultTypes[j]? = some t → ((Value.bool true).resultList f.resultTypes.size)[j]? = some r → Value.okWide P W' .any 0 t r := ok_one hres rfl (okWide_bool_mk htb _)
  refine ⟨ds, gs, pa ++ pv, [], pa, pv, hWhole, R _ _ _, ?_, ?_, World.keptBut_mono (fun p hp => ⟨hp, ?_⟩) (hb.frame (· ∈ pa ++ pv)), fun _ => ?_⟩
  · rw [hfn]; exact law_args hl hb _ hr hA ha (fun p hp => by simpa using ha p hp)
  · rw [hfn]; exact law_vars hl hb _ hv hV hvv (fun p hp => by simpa using hvv p hp)
  · rcases List.mem_append.1 hp with h | h
    · exact Or.inr (Or.inl h)
    · exact Or.inr (Or.inr h)
  · have A' := law_args (enc := enc) hl hb (fun _ => true) hr hA ha (fun _ _ => rfl)
    have V' := law_vars (enc := enc) hl hb (fun _ => true) hv hV hvv (fun _ _ => rfl)
    have R' := R 0 (fun _ => true) true
    rw [hfn] at R'
    refine ⟨hok, _, _, ([] ++ pa) ++ pv, ⟨[] ++ pa, pv, trodAll_append A' R', V', rfl, ?_, ?_⟩, ?_⟩
    · intro b off hp
      have hin : MemPlace.cell b off ∈ pa ++ pv := by simpa using hp
      rw [hb.frozen (hlt _ hin)]
      exact hz b off hin
    · intro ha
      have := hn ha
      simpa using this
    · intro p hp _
      simpa using hp

/-- What a listed variable reads as. -/
theorem laid_get {P : Program} {W : World} : ∀ {l : List (String × DataW Unit)} {ps : List MemPlace}, DataW.LaidVars P W l ps → ∀ {n : String} {d : DataW Unit}, (n, d) ∈ l →
    ∃ g t cs fuel p, P.globalNamed n = some g ∧ (P.globals[g]?).map (·.type) = some t ∧ W.var? P n = some cs ∧ DataW.trod (fun _ => ()) P W 0 (fun _ => true) false fuel t cs.toList = some (d, p)
  | [], _, _, _, _, h => by cases h
  | (_, _) :: _, _, ⟨g, t, cs, fuel, p, q, h1, h2, h3, h4, h5, _⟩, n, d, h => by
    rcases List.mem_cons.1 h with e | h
    · cases e
      exact ⟨g, t, cs, fuel, p, h1, h2, h3, h4⟩
    · exact laid_get h5 h

/-- A table of strings as a row lists it. -/
def strData {H : Type} (l : List (List UInt8)) : DataW H := .agg (l.map fun z => .lit (.string z))

theorem cells_of_strs {H : Type} {enc : TypeId × Value → H} {P : Program} {w : World} {base : Nat} {sp : Nat → Bool} {held : Bool} {fuel : Nat} {t e : TypeId} {n : Nat} {cs : List Value} {zs : List (List UInt8)} {p : List MemPlace}
    (ht : P.underlying t = some (.array n e)) (he : P.underlying e = some .string) (hce : P.cellsOf e = 1) (hct : P.cellsOf t = n)
    (h : DataW.trod enc P w base sp held fuel t cs = some (strData zs, p)) : cs = zs.map fun z => Value.string ⟨z.toArray⟩ := by
  obtain ⟨xs, m, rfl, hx, hlen, hxl, hel⟩ := DataW.trod_array ht h
  have hxs : xs.map (·.1) = zs.map fun z => (DataW.lit (.string z) : DataW H) := by
    have := congrArg Prod.fst hx
    simpa [strData] using this.symm
  have hzl : zs.length = n := by
    have := congrArg List.length hxs
    simp at this
    omega
  apply List.ext_getElem?
  intro i
  by_cases hi : i < n
  · have hf := hel i hi
    rw [hce, Nat.mul_one] at hf
    obtain ⟨b, hb⟩ : ∃ b, xs[i]? = some b := ⟨xs[i], List.getElem?_eq_getElem (by omega)⟩
    rw [hb] at hf
    obtain ⟨z, hc, rfl, _⟩ := DataW.trod_string he hf
    have h1 : cs[i]? = some (.string z) := by
      have := congrArg (·[0]?) hc
      simpa [List.getElem?_take, List.getElem?_drop] using this
    have h2 : (xs.map (·.1))[i]? = some (DataW.lit (.string z.data.toList) : DataW H) := by simp [hb]
    rw [hxs] at h2
    simp only [List.getElem?_map, Option.map_eq_some_iff, DataW.lit.injEq, Lit.string.injEq] at h2
    obtain ⟨z', hz', rfl⟩ := h2
    simp [h1, hz']
  · rw [List.getElem?_eq_none (by omega), List.getElem?_eq_none (by simp; omega)]
end Go.Proofs.YtkhcfhhejmkikaaGreatDoor

namespace Go.Proofs.YtkhcfhhejmkikaaGreatDoor

/-- The kinds of the bytes, as the program's table lists them. -/
def kt : List Int := [0, 0, 0, 0, 0, 0, 0, 0, 0, 0, 5, 0, 0, 0, 0, 0, 0, 0, 0, 0, 0, 0, 0, 0, 0, 0, 0, 0, 0, 0, 0, 0, 5, 3, 0, 0, 0, 3, 3, 0, 3, 3, 3, 3, 3, 3, 0, 3, 2, 2, 2, 2, 2, 2, 2, 2, 2, 2, 0, 3, 3, 3, 0, 0, 3, 0, 0, 0, 0, 0, 0, 0, 0, 0, 0, 0, 0, 0, 0, 0, 0, 0, 0, 0, 0, 0, 0, 0, 0, 0, 0, 0, 0, 0, 0, 0, 0, 1, 1, 1, 1, 1, 1, 1, 1, 1, 1, 1, 1, 1, 1, 1, 1, 1, 1, 1, 1, 1, 1, 1, 1, 1, 1, 3, 0, 3, 0, 0]
/-- The kind of a byte. -/
def kindN (n : Nat) : Int := if n < 128 then kt.getD n 0 else 0
def signs : List Nat := [40, 41, 123, 125, 59, 44, 43, 45, 42, 47, 37, 60, 61, 38, 33, 64]
/-- The class of a byte, as the model has it. -/
def cls (n : Nat) : Int := if 97 ≤ n ∧ n ≤ 122 then 1 else if 48 ≤ n ∧ n ≤ 57 then 2 else if n ∈ signs then 3 else if n = 32 ∨ n = 10 then 4 else 0
theorem kindN_cls : ∀ n < 256, kindN n = if cls n = 4 then 5 else cls n := by decide +kernel
theorem kindN_one (b : UInt8) : (kindN b.toNat = 1) ↔ (cls b.toNat = 1) := by
  have := kindN_cls b.toNat (by have := b.toNat_lt; omega)
  rw [this]; split <;> omega
/-- The keys. -/
def keyL : List (List UInt8) := [[102, 110], [108, 101, 116], [115, 97, 121], [112, 117, 116], [105, 102], [101, 108, 115, 101], [108, 111, 111, 112], [98, 97, 99, 107], [100, 111]]
def keyB (k : Nat) : ByteArray := ⟨(keyL.getD k []).toArray⟩
/-- The table of keys as a value. -/
def keyTab : Value := .agg (keyL.map fun k => Value.string ⟨k.toArray⟩).toArray
theorem ret_bool {a b : Bool} (h : a = b) : Ending.returned (.bool a) = .returned (.bool b) := by rw [h]
theorem ret_int {k : IntKind} {a b : Int} (h : a = b) : Ending.returned (.int k a) = .returned (.int k b) := by rw [h]
theorem str_yes {a b : ByteArray} (h : (a.toList == b.toList) = true) : a = b := by
  rw [beq_iff_eq, ByteArray.toList_eq, ByteArray.toList_eq] at h
  cases a; cases b
  simp only [Array.toList_inj] at h
  rw [h]
theorem str_no {a b : ByteArray} (h : (a.toList == b.toList) = false) : a ≠ b := by
  rintro rfl
  simp at h
theorem str_eq_true {a b : ByteArray} (h : a = b) : (a.toList == b.toList) = true := by rw [h]; simp
theorem str_eq_false {a b : ByteArray} (h : a ≠ b) : (a.toList == b.toList) = false := by
  rw [Bool.eq_false_iff]; exact fun e => h (str_yes e)
theorem byte_yes {a b : UInt8} (h : ((a.toNat : Int) == (b.toNat : Int)) = true) : a = b := by
  rw [beq_iff_eq] at h; exact UInt8.toNat_inj.1 (by omega)
theorem byte_no {a b : UInt8} (h : ((a.toNat : Int) == (b.toNat : Int)) = false) : a ≠ b := by
  rintro rfl; simp at h
/-- None of the first k keys is this text. -/
def noKey (s : ByteArray) (k : Nat) : Prop := ∀ j, j < k → keyB j ≠ s
theorem noKey_succ {s : ByteArray} {k : Nat} (h : noKey s k) (hk : keyB k ≠ s) : noKey s (k + 1) := by
  intro j hj
  by_cases e : j = k
  · subst e; exact hk
  · exact h j (by omega)
def isKeyB (s : ByteArray) : Bool := keyL.any fun k => k == s.data.toList
theorem isKeyB_iff (s : ByteArray) : isKeyB s = true ↔ ∃ k, k < 9 ∧ keyB k = s := by
  unfold isKeyB
  rw [List.any_eq_true]
  constructor
  · rintro ⟨l, hl, he⟩
    obtain ⟨k, hk, rfl⟩ := List.getElem_of_mem hl
    refine ⟨k, hk, ?_⟩
    have he' : keyL[k] = s.data.toList := by simpa using he
    unfold keyB
    rw [List.getD_eq_getElem?_getD, List.getElem?_eq_getElem hk, Option.getD_some, he']
  · rintro ⟨k, hk, rfl⟩
    refine ⟨keyL[k]'hk, List.getElem_mem _, ?_⟩
    unfold keyB
    rw [List.getD_eq_getElem?_getD, List.getElem?_eq_getElem (show k < keyL.length from hk), Option.getD_some]
    simp
    rfl
theorem isKeyB_no {s : ByteArray} (h : noKey s 9) : isKeyB s = false := by
  rw [Bool.eq_false_iff]
  intro hs
  obtain ⟨k, hk, e⟩ := (isKeyB_iff s).1 hs
  exact h k hk e
theorem isKeyB_yes {s : ByteArray} {k : Nat} (hk : k < 9) (h : keyB k = s) : isKeyB s = true := (isKeyB_iff s).2 ⟨k, hk, h⟩

/-- Where a byte stands first in a list, or -1. -/
def find30 (l : List UInt8) (b : UInt8) : Int := if b ∈ l then (l.idxOf b : Int) else -1
def noByte (s : ByteArray) (b : UInt8) (k : Nat) : Prop := ∀ j, (h : j < s.size) → j < k → s[j] ≠ b
theorem noByte_succ {s : ByteArray} {b : UInt8} {k : Nat} (h : noByte s b k) (hk : k < s.size) (hb : s[k] ≠ b) : noByte s b (k + 1) := by
  intro j hj hjk
  by_cases e : j = k
  · subst e; exact hb
  · exact h j hj (by omega)
theorem mem_iff_get {s : ByteArray} {b : UInt8} : b ∈ s.data.toList ↔ ∃ j, ∃ h : j < s.size, s[j] = b := by
  rw [List.mem_iff_getElem]
  constructor
  · rintro ⟨j, hj, e⟩; exact ⟨j, by simpa using hj, by rw [← e]; rfl⟩
  · rintro ⟨j, hj, e⟩; exact ⟨j, by simpa using hj, by rw [← e]; rfl⟩
theorem find30_no {s : ByteArray} {b : UInt8} (h : noByte s b s.size) : find30 s.data.toList b = -1 := by
  unfold find30
  rw [if_neg]
  intro hm
  obtain ⟨j, hj, e⟩ := mem_iff_get.1 hm
  exact h j hj hj e
theorem idxOf_first {b : UInt8} : ∀ (l : List UInt8) (k : Nat) (hk : k < l.length), l[k] = b → (∀ j, (h : j < l.length) → j < k → l[j] ≠ b) → l.idxOf b = k
  | [], k, hk, _, _ => absurd hk (by simp)
  | x :: l, k, hk, he, hn => by
    cases k with
    | zero =>
      have hx : x = b := by simpa using he
      rw [List.idxOf_cons]; simp [hx]
    | succ k =>
      have h0 : x ≠ b := by have := hn 0 (by simp) (by omega); simpa using this
      have ih := idxOf_first l k (by simpa using hk) (by simpa using he) (fun j hj hjk => by have := hn (j + 1) (by simpa using hj) (by omega); simpa using this)
      rw [List.idxOf_cons]
      have : (x == b) = false := by simpa using h0
      rw [this, ih]; rfl
theorem find30_yes {s : ByteArray} {b : UInt8} {k : Nat} (hk : k < s.size) (he : s[k] = b) (h : noByte s b k) : find30 s.data.toList b = k := by
  unfold find30
  rw [if_pos (mem_iff_get.2 ⟨k, hk, he⟩)]
  rw [idxOf_first s.data.toList k (by simpa using hk) (by rw [← he]; rfl) (fun j hj hjk => by have := h j (by simpa using hj) hjk; exact this)]
/-- The signs as a text. -/
def signS : ByteArray := ⟨#[40, 41, 123, 125, 59, 44, 43, 45, 42, 47, 37, 60, 61, 38, 33, 64]⟩
theorem sign_mem (b : UInt8) : b ∈ signS.data.toList ↔ b.toNat ∈ signs := by
  simp only [signS, signs, List.mem_cons, List.not_mem_nil, or_false, ← UInt8.toNat_inj]
  rfl
theorem find_sign_yes {b : UInt8} (h : b.toNat ∈ signs) : 0 ≤ find30 signS.data.toList b := by
  unfold find30; rw [if_pos ((sign_mem b).2 h)]; omega
theorem find_sign_no {b : UInt8} (h : b.toNat ∉ signs) : find30 signS.data.toList b = -1 := by
  unfold find30; rw [if_neg (fun e => h ((sign_mem b).1 e))]
/-- All bytes up to k are of a class. -/
def clsAll (s : ByteArray) (c : Int) (k : Nat) : Prop := ∀ j, (h : j < s.size) → j < k → cls (s[j]).toNat = c
theorem clsAll_succ {s : ByteArray} {c : Int} {k : Nat} (h : clsAll s c k) (hk : k < s.size) (hb : cls (s[k]).toNat = c) : clsAll s c (k + 1) := by
  intro j hj hjk
  by_cases e : j = k
  · subst e; exact hb
  · exact h j hj (by omega)
open Classical in
/-- All bytes of a text that is not empty are of a class. -/
noncomputable def allB (s : ByteArray) (c : Int) : Bool := decide (0 < s.size ∧ clsAll s c s.size)
theorem allB_no {s : ByteArray} {c : Int} {k : Nat} (hk : k < s.size) (h : cls (s[k]).toNat ≠ c) : allB s c = false := by
  unfold allB; rw [decide_eq_false_iff_not]; rintro ⟨_, h2⟩; exact h (h2 k hk hk)
theorem allB_end {s : ByteArray} {c : Int} (h : clsAll s c s.size) : allB s c = decide (0 < s.size) := by
  unfold allB; simp only [h, and_true]
/-- The text is a name. -/
noncomputable def nameB (s : ByteArray) : Bool := allB s 1 && decide (s.size ≤ 4) && !isKeyB s

theorem cls_letter {n : Nat} (h1 : 97 ≤ n) (h2 : n ≤ 122) : cls n = 1 := by unfold cls; rw [if_pos ⟨h1, h2⟩]
theorem cls_digit {n : Nat} (h1 : 48 ≤ n) (h2 : n ≤ 57) : cls n = 2 := by unfold cls; rw [if_neg (by omega), if_pos ⟨h1, h2⟩]
theorem cls_sign {n : Nat} (h0 : ¬ (97 ≤ n ∧ n ≤ 122)) (h1 : ¬ (48 ≤ n ∧ n ≤ 57)) (h : n ∈ signs) : cls n = 3 := by unfold cls; rw [if_neg h0, if_neg h1, if_pos h]
theorem cls_blank {n : Nat} (h : n = 32 ∨ n = 10) : cls n = 4 := by rcases h with rfl | rfl <;> decide
theorem cls_none {n : Nat} (h0 : ¬ (97 ≤ n ∧ n ≤ 122)) (h1 : ¬ (48 ≤ n ∧ n ≤ 57)) (h : n ∉ signs) (h2 : n ≠ 32) (h3 : n ≠ 10) : cls n = 0 := by
  unfold cls; rw [if_neg h0, if_neg h1, if_neg h, if_neg (by omega)]
theorem nameB_empty {s : ByteArray} (h : s.size = 0) : nameB s = false := by
  have : allB s 1 = false := by unfold allB; rw [decide_eq_false_iff_not]; omega
  unfold nameB; rw [this]; rfl
theorem nameB_long {s : ByteArray} (h : 4 < s.size) : nameB s = false := by
  unfold nameB
  have : decide (s.size ≤ 4) = false := by rw [decide_eq_false_iff_not]; omega
  rw [this]; simp
theorem nameB_key {s : ByteArray} (h : isKeyB s = true) : nameB s = false := by unfold nameB; rw [h]; simp
theorem nameB_bad {s : ByteArray} {k : Nat} (hk : k < s.size) (h : cls (s[k]).toNat ≠ 1) : nameB s = false := by unfold nameB; rw [allB_no hk h]; rfl
theorem nameB_yes {s : ByteArray} (h0 : 0 < s.size) (h4 : s.size ≤ 4) (hk : isKeyB s = false) (h : clsAll s 1 s.size) : nameB s = true := by
  unfold nameB; rw [allB_end h, hk]; simp [h0, h4]
end Go.Proofs.YtkhcfhhejmkikaaGreatDoor

namespace Go.Proofs.YtkhcfhhejmkikaaGreatDoor
open Go.RowKit
set_option maxRecDepth 100000

/-- The program's two tables stand in the world. -/
structure Tabs (w : World) : Prop where
  kinds : ∀ i, i < 128 → w.cell? ⟨1, i, none⟩ = some (.int .i64 (kt.getD i 0))
  size : 1 < w.heap.size ∧ 2 < w.heap.size
  keys : ∃ t fr, w.heap[2]? = some (.cells (keyL.map fun k => Value.string ⟨k.toArray⟩).toArray t fr)

set_option maxHeartbeats 400000 in
theorem kindOfByte_lo (b : UInt8) (z : Int) (w : World) (h : b.toNat < 128) (hc : w.cell? ⟨1, b.toNat, none⟩ = some (.int .i64 z)) :
    Calls Tryz.prog 87 #[.int .u8 b.toNat] w fun e w' => e = .returned (.int .i64 z) ∧ w = w' := by
  have hb : b.toNat < 256 := b.toNat_lt
  go_enter Tryz.func87, Tryz.ntmps87
  go_wp2
  go_ret
  exact ⟨rfl, rfl⟩
set_option maxHeartbeats 400000 in
theorem kindOfByte_hi (b : UInt8) (w : World) (h : ¬ b.toNat < 128) :
    Calls Tryz.prog 87 #[.int .u8 b.toNat] w fun e w' => e = .returned (.int .i64 0) ∧ w = w' := by
  have hb : b.toNat < 256 := b.toNat_lt
  have hb2 : 128 ≤ b.toNat := by omega
  go_enter Tryz.func87, Tryz.ntmps87
  go_wp2
  go_ret
  exact ⟨rfl, rfl⟩
theorem kindOfByte_any (b : UInt8) (w : World) (T : Tabs w) :
    Calls Tryz.prog 87 #[.int .u8 b.toNat] w fun e w' => e = .returned (.int .i64 (kindN b.toNat)) ∧ w = w' := by
  unfold kindN
  by_cases h : b.toNat < 128
  · rw [if_pos h]; exact kindOfByte_lo b _ w h (T.kinds _ h)
  · rw [if_neg h]; exact kindOfByte_hi b w h

set_option maxHeartbeats 400000 in
theorem inLetters_any (n : Int) (w : World) :
    Calls Tryz.prog 110 #[.int .i64 n] w fun e w' => e = .returned (.bool (n == 1)) ∧ w = w' := by
  go_enter Tryz.func110, Tryz.ntmps110
  go_wp2
  go_ret
  exact ⟨rfl, rfl⟩

theorem keyTab_at (k : Nat) (hk : k < 9) (w : World) : (Instr.index 147 keyTab (.int .i64 (k : Int))).run Tryz.prog w = .ok (.string (keyB k)) w := by
  have h : k = 0 ∨ k = 1 ∨ k = 2 ∨ k = 3 ∨ k = 4 ∨ k = 5 ∨ k = 6 ∨ k = 7 ∨ k = 8 := by omega
  rcases h with rfl | rfl | rfl | rfl | rfl | rfl | rfl | rfl | rfl <;> (show _ = _; kernel_rfl)
set_option maxHeartbeats 400000 in
theorem isKey_any (s : ByteArray) (w : World) (T : Tabs w) :
    Calls Tryz.prog 89 #[.string s] w fun e w' => e = .returned (.bool (isKeyB s)) ∧ w = w' := by
  obtain ⟨t, fr, hk⟩ := T.keys
  clear T
  go_enter Tryz.func89, Tryz.ntmps89
  go_wp2_with (with_reducible refine wpList_load_row rfl _ _ rfl _ rfl _ _ _ _ hk Tryz.underlying147 rfl (by kernel_rfl) ?_)
  clear hk
  have hidx := keyTab_at
  unfold keyTab at hidx
  generalize Value.agg (List.map (fun k => Value.string ⟨k.toArray⟩) keyL).toArray = KT at *
  have HI := Lib.hid hidx
  clear hidx
  go_loop [6] (fun i => ∃ k : Nat, k ≤ 9 ∧ i = .int .i64 k ∧ noKey s k) (fun i => 9 - (intOf i).toNat)
  case atStart => exact ⟨0, Nat.zero_le _, rfl, fun j hj => absurd hj (by omega)⟩
  case round =>
    obtain ⟨k, hk, rfl, hno⟩ := hrel
    by_cases hlt : k < 9
    · have hi := HI.out k hlt
      generalize hkb : keyB k = kb at *
      have HKB := Lib.hid hkb; clear hkb
      go_wp2
      · have he : s = kb := str_yes (by assumption)
        go_ret
        exact ⟨ret_bool (isKeyB_yes hlt (HKB.out.trans he.symm)).symm, rfl⟩
      · have he : s ≠ kb := str_no (by assumption)
        go_round
        case rel => exact ⟨k + 1, by omega, by go_num, noKey_succ hno (fun e => he (e.symm.trans HKB.out))⟩
        case measure => simp only [intOf]; omega
    · obtain rfl : k = 9 := by omega
      go_wp2
      go_ret
      exact ⟨ret_bool (isKeyB_no hno).symm, rfl⟩

set_option maxHeartbeats 400000 in
theorem l30Find_any (s : ByteArray) (b : UInt8) (w : World) (hs : s.size ≤ maxLen) :
    Calls Tryz.prog 93 #[.string s, .int .u8 b.toNat] w fun e w' => e = .returned (.int .i64 (find30 s.data.toList b)) ∧ w = w' := by
  unfold maxLen at hs
  go_enter Tryz.func93, Tryz.ntmps93
  go_wp2
  go_loop [5] (fun i => ∃ k : Nat, k ≤ s.size ∧ i = .int .i64 k ∧ noByte s b k) (fun i => s.size - (intOf i).toNat)
  case atStart => exact ⟨0, Nat.zero_le _, rfl, fun j _ hj => absurd hj (by omega)⟩
  case round =>
    obtain ⟨k, hk, rfl, hno⟩ := hrel
    by_cases hlt : k < s.size
    · go_wp2
      · have he : s[k] = b := byte_yes (by assumption)
        go_ret
        exact ⟨ret_int (find30_yes hlt he hno).symm, rfl⟩
      · have he : s[k] ≠ b := byte_no (by assumption)
        go_round
        case rel => exact ⟨k + 1, by omega, by go_num, noByte_succ hno hlt he⟩
        case measure => simp only [intOf]; omega
    · obtain rfl : k = s.size := by omega
      go_wp2
      go_ret
      exact ⟨ret_int (find30_no hno).symm, rfl⟩

set_option maxHeartbeats 400000 in
theorem l1Class_letter (b : UInt8) (w : World) (h1 : 97 ≤ b.toNat) (h2 : b.toNat ≤ 122) :
    Calls Tryz.prog 57 #[.int .u8 b.toNat] w fun e w' => e = .returned (.int .i64 1) ∧ w = w' := by
  go_enter Tryz.func57, Tryz.ntmps57
  go_wp2
  go_ret
  exact ⟨rfl, rfl⟩
set_option maxHeartbeats 400000 in
theorem l1Class_digit (b : UInt8) (w : World) (h1 : 48 ≤ b.toNat) (h2 : b.toNat ≤ 57) :
    Calls Tryz.prog 57 #[.int .u8 b.toNat] w fun e w' => e = .returned (.int .i64 2) ∧ w = w' := by
  go_enter Tryz.func57, Tryz.ntmps57
  go_wp2
  go_ret
  exact ⟨rfl, rfl⟩
set_option maxHeartbeats 1000000 in
theorem l1Class_sign (b : UInt8) (w : World) (h0 : ¬ (97 ≤ b.toNat ∧ b.toNat ≤ 122)) (h1 : ¬ (48 ≤ b.toNat ∧ b.toNat ≤ 57)) (h : b.toNat ∈ signs) :
    Calls Tryz.prog 57 #[.int .u8 b.toNat] w fun e w' => e = .returned (.int .i64 3) ∧ w = w' := by
  have hf := find_sign_yes h
  have C := l30Find_any signS b w (by decide)
  generalize find30 signS.data.toList b = z at *
  unfold signS at C
  have HC := Lib.hid C; clear C h
  by_cases a1 : 97 ≤ b.toNat <;> by_cases a2 : 48 ≤ b.toNat <;> try (exfalso; omega)
  all_goals
    first | (have a3 : 122 < b.toNat := by omega) | skip
    first | (have a4 : 57 < b.toNat := by omega) | skip
    clear h0 h1
    go_enter Tryz.func57, Tryz.ntmps57
    go_wp2_with fail
    refine HC.out.mono ?_
    rintro e w' ⟨rfl, rfl⟩
    go_wp2
    go_ret
    exact ⟨rfl, rfl⟩
set_option maxHeartbeats 1000000 in
theorem l1Class_rest (b : UInt8) (z : Int) (w : World) (h0 : ¬ (97 ≤ b.toNat ∧ b.toNat ≤ 122)) (h1 : ¬ (48 ≤ b.toNat ∧ b.toNat ≤ 57)) (h : b.toNat ∉ signs)
    (hz : (b.toNat = 32 ∧ z = 4) ∨ (b.toNat = 10 ∧ z = 4) ∨ (b.toNat ≠ 32 ∧ b.toNat ≠ 10 ∧ z = 0)) :
    Calls Tryz.prog 57 #[.int .u8 b.toNat] w fun e w' => e = .returned (.int .i64 z) ∧ w = w' := by
  have hf := find_sign_no h
  have C := l30Find_any signS b w (by decide)
  rw [hf] at C
  unfold signS at C
  have HC := Lib.hid C; clear C h hf
  rcases hz with ⟨g, rfl⟩ | ⟨g, rfl⟩ | ⟨g1, g2, rfl⟩
  · have b1 : ((b.toNat : Int) == 32) = true := by rw [beq_iff_eq]; omega
    have a3 : b.toNat < 97 := by omega
    have a4 : b.toNat < 48 := by omega
    clear h0 h1 g
    go_enter Tryz.func57, Tryz.ntmps57
    go_wp2_with fail
    refine HC.out.mono ?_
    rintro e w' ⟨rfl, rfl⟩
    go_wp2
    go_ret
    exact ⟨rfl, rfl⟩
  · have b1 : ((b.toNat : Int) == 32) = false := by rw [beq_eq_false_iff_ne]; omega
    have b2 : ((b.toNat : Int) == 10) = true := by rw [beq_iff_eq]; omega
    have a3 : b.toNat < 97 := by omega
    have a4 : b.toNat < 48 := by omega
    clear h0 h1 g
    go_enter Tryz.func57, Tryz.ntmps57
    go_wp2_with fail
    refine HC.out.mono ?_
    rintro e w' ⟨rfl, rfl⟩
    go_wp2
    go_ret
    exact ⟨rfl, rfl⟩
  · have b1 : ((b.toNat : Int) == 32) = false := by rw [beq_eq_false_iff_ne]; omega
    have b2 : ((b.toNat : Int) == 10) = false := by rw [beq_eq_false_iff_ne]; omega
    clear g1 g2
    by_cases a1 : 97 ≤ b.toNat <;> by_cases a2 : 48 ≤ b.toNat <;> try (exfalso; omega)
    all_goals
      first | (have a3 : 122 < b.toNat := by omega) | skip
      first | (have a4 : 57 < b.toNat := by omega) | skip
      clear h0 h1
      go_enter Tryz.func57, Tryz.ntmps57
      go_wp2_with fail
      refine HC.out.mono ?_
      rintro e w' ⟨rfl, rfl⟩
      go_wp2
      go_ret
      exact ⟨rfl, rfl⟩
theorem l1Class_any (b : UInt8) (w : World) :
    Calls Tryz.prog 57 #[.int .u8 b.toNat] w fun e w' => e = .returned (.int .i64 (cls b.toNat)) ∧ w = w' := by
  by_cases h1 : 97 ≤ b.toNat ∧ b.toNat ≤ 122
  · rw [cls_letter h1.1 h1.2]; exact l1Class_letter b w h1.1 h1.2
  by_cases h2 : 48 ≤ b.toNat ∧ b.toNat ≤ 57
  · rw [cls_digit h2.1 h2.2]; exact l1Class_digit b w h2.1 h2.2
  by_cases h3 : b.toNat ∈ signs
  · rw [cls_sign h1 h2 h3]; exact l1Class_sign b w h1 h2 h3
  by_cases h4 : b.toNat = 32
  · rw [cls_blank (.inl h4)]; exact l1Class_rest b 4 w h1 h2 h3 (.inl ⟨h4, rfl⟩)
  by_cases h5 : b.toNat = 10
  · rw [cls_blank (.inr h5)]; exact l1Class_rest b 4 w h1 h2 h3 (.inr (.inl ⟨h5, rfl⟩))
  · rw [cls_none h1 h2 h3 h4 h5]; exact l1Class_rest b 0 w h1 h2 h3 (.inr (.inr ⟨h4, h5, rfl⟩))
end Go.Proofs.YtkhcfhhejmkikaaGreatDoor
