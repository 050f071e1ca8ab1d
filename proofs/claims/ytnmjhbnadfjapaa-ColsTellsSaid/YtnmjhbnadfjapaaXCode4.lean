/-
  ROWS OF OPERATIONS WHOSE ORDER IS DRAWN: how they are run, once for all orders. No program is named here.
-/
import Derived.Test.YtnmjhbnadfjapaaXCode3
namespace GoX
open Go

/-! ### Values that are the same -/
def eqP (a b : Option (Nat × Nat)) : Bool :=
  match a, b with
  | none, none => true
  | some (b, o), some (c, p) => Nat.beq b c && Nat.beq o p
  | _, _ => false
theorem eqP_ok {a b : Option (Nat × Nat)} (h : eqP a b = true) : a = b := by
  match a, b, h with
  | none, none, _ => rfl
  | some (b, o), some (c, p), h =>
    simp only [eqP, Bool.and_eq_true] at h
    rw [beq_eq' h.1, beq_eq' h.2]
def eqC (a b : Cap) : Bool :=
  match a, b with
  | .exact m, .exact n => Nat.beq m n
  | .opened m, .opened n => Nat.beq m n
  | .edge m o, .edge n p => Nat.beq m n && Nat.beq o p
  | _, _ => false
theorem eqC_ok {a b : Cap} (h : eqC a b = true) : a = b := by
  match a, b, h with
  | .exact m, .exact n, h => rw [beq_eq' (show Nat.beq m n = true from h)]
  | .opened m, .opened n, h => rw [beq_eq' (show Nat.beq m n = true from h)]
  | .edge m o, .edge n p, h =>
    simp only [eqC, Bool.and_eq_true] at h
    rw [beq_eq' h.1, beq_eq' h.2]
noncomputable def eq1 (a b : AV) : Bool :=
  match a, b with
  | .ptr x, .ptr y => eqP x y
  | .sl x n c, .sl y m d => eqP x y && Nat.beq n m && eqC c d
  | .map none, .map none => true
  | .map (some x), .map (some y) => Nat.beq x y
  | .nilFn, .nilFn => true
  | .nilIfc, .nilIfc => true
  | a, b => same1 a b
theorem eq1_ok {a b : AV} (h : eq1 a b = true) : a = b := by
  unfold eq1 at h
  split at h
  · rw [eqP_ok h]
  · simp only [Bool.and_eq_true] at h
    rw [eqP_ok h.1.1, beq_eq' h.1.2, eqC_ok h.2]
  · rfl
  · rw [beq_eq' h]
  · rfl
  · rfl
  · exact (same1_ok h).1
noncomputable def eqs1 : List AV → List AV → Bool
  | [], [] => true
  | a :: l, b :: r => eq1 a b && eqs1 l r
  | _, _ => false
theorem eqs1_ok : ∀ {l r : List AV}, eqs1 l r = true → l = r
  | [], [], _ => rfl
  | a :: l, b :: r, h => by
    simp only [eqs1, Bool.and_eq_true] at h
    rw [eq1_ok h.1, eqs1_ok h.2]
noncomputable def eqA (a b : AV) : Bool :=
  match a, b with
  | .agg l, .agg r => eqs1 l r
  | .tup l, .tup r => eqs1 l r
  | .ifc t x, .ifc u y => Nat.beq t u && eq1 x y
  | a, b => eq1 a b
theorem eqA_ok {a b : AV} (h : eqA a b = true) : a = b := by
  unfold eqA at h
  split at h
  · rw [eqs1_ok h]
  · rw [eqs1_ok h]
  · simp only [Bool.and_eq_true] at h
    rw [beq_eq' h.1, eq1_ok h.2]
  · exact eq1_ok h

/-! ### What is known of a row before it runs -/
def tmpsOf : List Operand → List Tmp
  | [] => []
  | .tmp t :: l => t :: tmpsOf l
  | _ :: l => tmpsOf l
/-- All slots that an operation reads. -/
def readsOf (ops : List Oper) (o : Oper) : List Tmp :=
  match o.guard with
  | some (j, _) => match dstOf ops j with
    | some d => d :: tmpsOf o.op.operands.toList
    | none => tmpsOf o.op.operands.toList
  | none => tmpsOf o.op.operands.toList

/-- An operation of a row: its place, and as bits all that are known to stand ahead of it in every order. -/
structure DI where
  o : Oper
  idx : Nat
  anc : Nat
  kind : Nat
  reads : List Tmp

noncomputable def orBits (ancOf : Nat → Nat) : List Edge → Nat → Nat
  | [], s => s
  | e :: l, s => cond (Region.binds .any e) (forceN (Nat.lor (Nat.lor s (2 ^ e.on)) (ancOf e.on)) fun s => orBits ancOf l s) (orBits ancOf l s)
def ancAt : List DI → Nat → Nat
  | [], _ => 0
  | d :: l, i => cond (Nat.beq d.idx i) d.anc (ancAt l i)
/-- The row, told backwards. -/
noncomputable def infoGo (K : Tab) (ops : List Oper) : List Oper → Nat → List DI → (List DI → CC) → CC
  | [], _, acc, k => k acc
  | o :: l, i, acc, k => forceN (orBits (ancAt acc) o.after.toList 0) fun a => forceN (kindOf K o.op) fun kd => forceN i fun i => infoGo K ops l (i + 1) (⟨o, i, a, kd, readsOf ops o⟩ :: acc) k

def hasT (n : Nat) (l : List Tmp) : Bool := match l with
  | [] => false
  | m :: l => cond (Nat.beq m n) true (hasT n l)
def touches (o : Option Tmp) (l : List Tmp) : Bool :=
  match o with
  | some d => hasT d l
  | none => false
def sameDst (a b : Option Tmp) : Bool :=
  match a, b with
  | some a, some b => Nat.beq a b
  | _, _ => false
/-- Whether two operations must keep their order. -/
def tied (x y : DI) : Bool := touches x.o.dst y.reads || touches y.o.dst x.reads || sameDst x.o.dst y.o.dst || Nat.beq y.kind 2
def bit (a i : Nat) : Bool := Nat.testBit a i
/-- 'y' against all that run ahead of it. -/
def tiedAll (y : DI) : List DI → Bool
  | [] => true
  | x :: l => (!tied x y || bit y.anc x.idx) && tiedAll y l
def backAll (i : Nat) : List Edge → Bool
  | [] => true
  | e :: l => (!Region.binds .any e || Nat.blt e.on i) && backAll i l
/-- An order to run in: each operation once. -/
def planOk (m : Nat) : List DI → List DI → Nat → Bool
  | [], _, mask => Nat.beq (mask + 1) (2 ^ m)
  | y :: l, before, mask => !bit mask y.idx && Nat.blt y.idx m && backAll y.idx y.o.after.toList && tiedAll y before && planOk m l (y :: before) (Nat.lor mask (2 ^ y.idx))

/-- Of the row, forwards, those of 'want' that are not out. -/
def takeOut (want out : Nat) : List DI → (List DI → List DI) → (List DI → List DI)
  | [], acc => acc
  | d :: l, acc => cond (bit want d.idx && !bit out d.idx) (takeOut want out l fun r => acc (d :: r)) (takeOut want out l acc)
def planGo (all : List DI) : List DI → Nat → (List DI → List DI) → List DI
  | [], out, acc => takeOut (2 ^ all.length - 1) out all acc []
  | d :: l, out, acc => cond (Nat.beq d.kind 2 && !bit out d.idx)
      (planGo all l (Nat.lor (Nat.lor out d.anc) (2 ^ d.idx)) fun r => takeOut d.anc out all acc (d :: r))
      (planGo all l out acc)

/-! ### How it runs -/
structure CD where
  go : AT → AH → List (Nat × AH) → (Ex → AT → AH → Bool) → Bool

/-- Whether a value names no block from n on. -/
def low1 (n : Nat) (v : AV) : Bool :=
  match v with
  | .bool _ => true
  | .int _ _ => true
  | .str _ => true
  | .ptr none => true
  | .ptr (some a) => Nat.blt a.1 n
  | .sl none _ _ => true
  | .sl (some a) _ _ => Nat.blt a.1 n
  | .map none => true
  | .map (some r) => Nat.blt r n
  | .nilFn => true
  | .nilIfc => true
  | _ => false
def lows (n : Nat) : List AV → Bool
  | [] => true
  | v :: l => low1 n v && lows n l
def lowV (n : Nat) (v : AV) : Bool :=
  match v with
  | .agg l => lows n l
  | .ifc _ v => low1 n v
  | v => low1 n v
noncomputable def lowOps (n : Nat) (T : AT) : List Operand → Bool
  | [] => true
  | .tmp t :: l => Trie.getK (bits t) T false (lowV n) && lowOps n T l
  | _ :: l => lowOps n T l

/-- The same, over each heap before which it may stand. -/
noncomputable def sameBack (c : CL) (anc : Nat) (xs : List Operand) (T : AT) (v : AV) (Hs : List (Nat × AH)) : Bool :=
  List.rec true (fun p _ ih => (bit anc p.1 || (lowOps p.2.next T xs && c.go T p.2 fun u => eqA u v)) && ih) Hs

def AH.empty : AH := ⟨0, .leaf⟩

noncomputable def cLight (K : Tab) (op : Op) : CH := ⟨fun T H k => (cl K op).go T .empty fun v => k v H⟩
noncomputable def cBack (K : Tab) (op : Op) (anc : Nat) (Hs : List (Nat × AH)) : CH :=
  ⟨fun T H k => (cl K op).go T H fun v => cond (sameBack (cl K op) anc op.operands.toList T v Hs) (k v H) false⟩

noncomputable def cStep (all : List Oper) (n : Nat) (o : Oper) (c : CH) : CS := match dstOk n o.dst with
  | true => cGuard all o.guard (cRun c o.dst) (cSkip o.dst)
  | false => ⟨fun _ _ _ => false⟩

noncomputable def cDraw (K : Tab) (n : Nat) (call : FuncId → CF) (all : List Oper) (l : List DI) : CD :=
  List.rec ⟨fun T H _ k => k .normal T H⟩ (fun s _ ih => match s.kind with
    | 0 => match asksMem s.o.op with
      | false => ⟨fun T H Hs k => (cStep all n s.o (cLight K s.o.op)).go T H fun T H => ih.go T H Hs k⟩
      | true => ⟨fun T H Hs k => (cStep all n s.o (cBack K s.o.op s.anc Hs)).go T H fun T H => ih.go T H Hs k⟩
    | 1 => ⟨fun T H Hs k => (cStep all n s.o (ca K s.o.op).heavy).go T H fun T H => ih.go T H Hs k⟩
    | 2 => ⟨fun T H Hs k => (cStep all n s.o (cp K true call s.o.op)).go T H fun T' H' => ih.go T' H' ((s.idx, H) :: Hs) k⟩
    | _ => ⟨fun _ _ _ _ => false⟩) l

noncomputable def drawK (K : Tab) (n : Nat) (call : FuncId → CF) (ops : List Oper) (back : List DI) : CC :=
  match planOk ops.length (planGo back.reverse back.reverse 0 id) [] 0 with
  | true => ⟨fun T H k => (cDraw K n call ops (planGo back.reverse back.reverse 0 id)).go T H [] k⟩
  | false => CC.none
noncomputable def drawC (K : Tab) (n : Nat) (call : FuncId → CF) (ops : List Oper) : CC := infoGo K ops ops 0 [] (drawK K n call ops)
end GoX
