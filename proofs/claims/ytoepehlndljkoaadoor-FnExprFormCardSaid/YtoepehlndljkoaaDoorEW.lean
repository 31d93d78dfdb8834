/-
  Plain mathematics of expressions: their words, with the brackets that are needed; how words are read. Nothing of a program stands here.
-/
import Derived.Test.YtoepehlndljkoaaDoorEM
import Derived.Lib.ItoaNum
namespace Go.Proofs.YtoepehlndljkoaaDoor

/-- A word: its kind and its text. -/
abbrev W := Int × ByteArray
/-- The level of an op. -/
def lvl (op : Int) : Nat := if op = 10 then 1 else if op = 8 ∨ op = 9 then 2 else if op = 3 ∨ op = 4 then 3 else if op = 5 ∨ op = 6 ∨ op = 7 then 4 else if op = 11 ∨ op = 12 then 5 else 6
/-- The byte of an op's sign. -/
def sgnN (op : Int) : UInt8 := [43, 45, 42, 47, 37, 60, 61, 38, 33, 64].getD (op - 3).toNat 0
def sgnS (op : Int) : ByteArray := ⟨#[sgnN op]⟩
def lpS : ByteArray := ⟨#[40]⟩
def rpS : ByteArray := ⟨#[41]⟩
def cmS : ByteArray := ⟨#[44]⟩
def decS (n : Nat) : ByteArray := ⟨(Lib.decDigits n).toArray⟩
/-- The level that a Kid must have at least. -/
def needOf (op : Int) (i : Nat) : Nat := if op = 13 then 1 else if op = 11 ∨ op = 12 then 5 else lvl op + i
/-- Lists with commas between. -/
def commas : List (List W) → List W
  | [] => []
  | [p] => p
  | p :: q :: r => p ++ (3, cmS) :: commas (q :: r)
/-- The words of an expression, out of its Kids' words. -/
def bodyW (op n : Int) (s : ByteArray) (parts : List (List W)) : List W :=
  if op = 1 then [(2, decS n.toNat)] else if op = 2 then [(1, s)] else if op = 13 then (1, s) :: (3, lpS) :: (commas parts ++ [(3, rpS)])
  else match parts with
    | [p] => (3, sgnS op) :: p
    | [p, q] => p ++ (3, sgnS op) :: q
    | _ => []
/-- Words with brackets around, if they are needed. -/
def needW (b : Bool) (l : List W) : List W := if b = true then (3, lpS) :: (l ++ [(3, rpS)]) else l
mutual
/-- The words of an expression that stands where a level is needed. -/
def wE : E → Nat → List W
  | .mk op n s ks, need => needW (decide (lvl op < need)) (bodyW op n s (wL op 0 ks))
def wL (op : Int) : Nat → List E → List (List W)
  | _, [] => []
  | i, k :: ks => wE k (needOf op i) :: wL op (i + 1) ks
end
theorem wE_eq (e : E) (need : Nat) : wE e need = needW (decide (lvl e.op < need)) (bodyW e.op e.n e.name (wL e.op 0 e.kids)) := by cases e; rfl
theorem wL_length (op : Int) : ∀ (i : Nat) (ks : List E), (wL op i ks).length = ks.length
  | _, [] => rfl
  | i, k :: ks => by show (wL op (i + 1) ks).length + 1 = ks.length + 1; rw [wL_length op (i + 1) ks]
theorem wL_get (op : Int) : ∀ (i : Nat) (ks : List E) (j : Nat) (h : j < ks.length) (h' : j < (wL op i ks).length), (wL op i ks)[j] = wE ks[j] (needOf op (i + j))
  | _, [], j, h, _ => absurd h (by simp)
  | i, k :: ks, 0, _, _ => rfl
  | i, k :: ks, j + 1, h, h' => by
    have ih := wL_get op (i + 1) ks j (by simpa using h) (by rw [wL_length]; simpa using h)
    have e : i + 1 + j = i + (j + 1) := by omega
    rw [e] at ih
    exact ih
theorem wL_app (op : Int) : ∀ (i : Nat) (a b : List E), wL op i (a ++ b) = wL op i a ++ wL op (i + a.length) b
  | i, [], b => rfl
  | i, k :: a, b => by
    show wE k (needOf op i) :: wL op (i + 1) (a ++ b) = wE k (needOf op i) :: (wL op (i + 1) a ++ wL op (i + (a.length + 1)) b)
    rw [wL_app op (i + 1) a b]
    have e : i + 1 + a.length = i + (a.length + 1) := by omega
    rw [e]
theorem commas_snoc : ∀ (l : List (List W)) (p : List W), l ≠ [] → commas (l ++ [p]) = commas l ++ (3, cmS) :: p
  | [], _, h => absurd rfl h
  | [x], p, _ => rfl
  | x :: y :: r, p, _ => by
    have ih := commas_snoc (y :: r) p (by simp)
    show x ++ (3, cmS) :: commas (y :: r ++ [p]) = (x ++ (3, cmS) :: commas (y :: r)) ++ (3, cmS) :: p
    rw [ih]; simp
/-- The words of the first i Kids of a call, with commas between. -/
def callTo (ks : List E) (i : Nat) : List W := commas (wL 13 0 (ks.take i))
theorem callTo_zero (ks : List E) : callTo ks 0 = [] := by unfold callTo; rw [List.take_zero]; rfl
theorem callTo_first {ks : List E} (h : 0 < ks.length) : callTo ks 1 = wE ks[0] 1 := by
  unfold callTo
  rw [List.take_succ_eq_append_getElem h]
  rfl
theorem callTo_next {ks : List E} {i : Nat} (h : i < ks.length) (h0 : 0 < i) : callTo ks (i + 1) = callTo ks i ++ (3, cmS) :: wE ks[i] 1 := by
  unfold callTo
  rw [List.take_succ_eq_append_getElem h, wL_app]
  have e : wL 13 (0 + (ks.take i).length) [ks[i]] = [wE ks[i] 1] := by
    show [wE ks[i] (needOf 13 _)] = _
    rfl
  rw [e, commas_snoc _ _ (by
    intro hn
    have := congrArg List.length hn
    rw [wL_length, List.length_take, List.length_nil] at this
    omega)]
theorem callTo_end (ks : List E) : callTo ks ks.length = commas (wL 13 0 ks) := by unfold callTo; rw [List.take_length]

theorem body_num (n : Int) (s : ByteArray) (p : List (List W)) : bodyW 1 n s p = [(2, decS n.toNat)] := rfl
theorem body_var (n : Int) (s : ByteArray) (p : List (List W)) : bodyW 2 n s p = [(1, s)] := rfl
theorem body_call (n : Int) (s : ByteArray) (p : List (List W)) : bodyW 13 n s p = (1, s) :: (3, lpS) :: (commas p ++ [(3, rpS)]) := rfl
theorem body_un {op : Int} (h : op = 11 ∨ op = 12) (n : Int) (s : ByteArray) (p : List W) : bodyW op n s [p] = (3, sgnS op) :: p := by
  rcases h with rfl | rfl <;> rfl
theorem body_bin {op : Int} (h : 3 ≤ op ∧ op ≤ 10) (n : Int) (s : ByteArray) (p q : List W) : bodyW op n s [p, q] = p ++ (3, sgnS op) :: q := by
  unfold bodyW
  rw [if_neg (by omega), if_neg (by omega), if_neg (by omega)]

/-- Does a text stand next? -/
def isT (ws : List W) (t : ByteArray) : Bool := match ws with
  | [] => false
  | w :: _ => decide (w.2 = t)
/-- The op of a level that stands next, with two Kids. -/
def opAt (l : Nat) (ws : List W) : Option Int := [3, 4, 5, 6, 7, 8, 9, 10].find? fun op => decide (lvl op = l) && isT ws (sgnS op)
/-- The op that stands next, ahead of one Kid. -/
def aheadAt (ws : List W) : Option Int := [11, 12].find? fun op => isT ws (sgnS op)
def unE (op : Int) (x : E) : E := .mk op 0 ⟨#[]⟩ [x]
def binE (op : Int) (x y : E) : E := .mk op 0 ⟨#[]⟩ [x, y]
def numE (n : Int) : E := .mk 1 n ⟨#[]⟩ []
def varE (s : ByteArray) : E := .mk 2 0 s []
def callE (s : ByteArray) (ks : List E) : E := .mk 13 0 s ks
/-- The number of a word of digits. -/
def numW (s : ByteArray) : Int := ((s.data.toList.foldl (fun a b => a * 10 + (b.toNat - 48)) 0 : Nat) : Int)
mutual
/-- Reads an expression of a level. -/
def rdL (nm : ByteArray → Int) : Nat → Nat → List W → Option (E × List W)
  | 0, _, _ => none
  | m + 1, l, ws => if 4 < l then rdT nm m ws else (rdL nm m (l + 1) ws).bind fun p => rdO nm m l p.1 p.2
/-- Goes on with ops of a level. -/
def rdO (nm : ByteArray → Int) : Nat → Nat → E → List W → Option (E × List W)
  | 0, _, _, _ => none
  | m + 1, l, x, ws => match opAt l ws with
    | none => some (x, ws)
    | some op => (rdL nm m (l + 1) ws.tail).bind fun p => rdO nm m l (binE op x p.1) p.2
/-- Reads an expression of the level 5 or 6. -/
def rdT (nm : ByteArray → Int) : Nat → List W → Option (E × List W)
  | 0, _ => none
  | m + 1, ws => match aheadAt ws with
    | some op => (rdT nm m ws.tail).bind fun p => some (unE op p.1, p.2)
    | none => rdW nm m ws
/-- Reads an expression of the level 6. -/
def rdW (nm : ByteArray → Int) : Nat → List W → Option (E × List W)
  | 0, _ => none
  | _ + 1, [] => none
  | m + 1, w :: r =>
      if w.2 = lpS then (rdL nm m 1 r).bind fun p => if isT p.2 rpS = true then some (p.1, p.2.tail) else none
      else if w.1 = 2 then some (numE (nm w.2), r)
      else if w.1 = 1 then (if isT r lpS = true then (rdC nm m r.tail).bind fun p => some (callE w.2 p.1, p.2) else some (varE w.2, r))
      else none
/-- Reads the Kids of a call, and the bracket behind them. -/
def rdC (nm : ByteArray → Int) : Nat → List W → Option (List E × List W)
  | 0, _ => none
  | m + 1, ws => if isT ws rpS = true then some ([], ws.tail) else rdK nm m [] ws
def rdK (nm : ByteArray → Int) : Nat → List E → List W → Option (List E × List W)
  | 0, _, _ => none
  | m + 1, acc, ws => (rdL nm m 1 ws).bind fun p =>
      if isT p.2 rpS = true then some (acc ++ [p.1], p.2.tail)
      else if isT p.2 cmS = true then rdK nm m (acc ++ [p.1]) p.2.tail else none
end
end Go.Proofs.YtoepehlndljkoaaDoor
