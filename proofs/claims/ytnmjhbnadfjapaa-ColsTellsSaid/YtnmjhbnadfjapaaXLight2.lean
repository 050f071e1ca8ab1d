/-
  THE OPERATIONS THAT CHANGE NO MEMORY: numbers, texts, equality. No program is named here.
-/
import Derived.Test.YtnmjhbnadfjapaaXLight
import Derived.IntWalk
namespace GoX
open Go

/-! ### Numbers -/
def kindNo : IntKind → Nat
  | .i8 => 0 | .i16 => 1 | .i32 => 2 | .i64 => 3 | .u8 => 4 | .u16 => 5 | .u32 => 6 | .u64 => 7
theorem kindNo_inj {a b : IntKind} (h : Nat.beq (kindNo a) (kindNo b) = true) : a = b := by cases a <;> cases b <;> first | rfl | cases h

/-- A number cut to its kind; most are small. -/
def wrapA (k : IntKind) (n : Int) : Int := match n with
  | .ofNat m => cond (Nat.blt m 128) (.ofNat m) (match k with
    | .i64 => cond (Nat.blt m 9223372036854775808) (.ofNat m) (k.wrap (.ofNat m))
    | .u64 => cond (Nat.blt m 18446744073709551616) (.ofNat m) (k.wrap (.ofNat m))
    | k => k.wrap (.ofNat m))
  | .negSucc m => match k with
    | .i64 => cond (Nat.blt m 9223372036854775808) (.negSucc m) (k.wrap (.negSucc m))
    | k => k.wrap (.negSucc m)
theorem wrap_small (k : IntKind) (m : Nat) (h : m < 128) : k.wrap (Int.ofNat m) = Int.ofNat m := by
  cases k <;> simp only [IntKind.wrap, IntKind.bits, IntKind.signed] <;> simp <;> (try split) <;> omega
theorem wrapA_eq (k : IntKind) (n : Int) : wrapA k n = k.wrap n := by
  cases n with
  | ofNat m =>
    simp only [wrapA]
    cases hb : Nat.blt m 128 with
    | true => exact (wrap_small k m (blt_lt hb)).symm
    | false =>
      simp only [cond_false]
      cases k <;> simp only
      · cases hc : Nat.blt m 9223372036854775808 with
        | true => have := blt_lt hc; rw [cond_true]; exact (IntWalk.i64_in _ (by simp only [Int.ofNat_eq_natCast]; omega)).symm
        | false => rw [cond_false]
      · cases hc : Nat.blt m 18446744073709551616 with
        | true => have := blt_lt hc; rw [cond_true]; exact (IntWalk.u64_in _ (by simp only [Int.ofNat_eq_natCast]; omega)).symm
        | false => rw [cond_false]
  | negSucc m =>
    simp only [wrapA]
    cases k <;> simp only
    cases hc : Nat.blt m 9223372036854775808 with
    | true => have := blt_lt hc; rw [cond_true]; exact (IntWalk.i64_in _ (by omega)).symm
    | false => rw [cond_false]

def leI (x y : Int) : Bool := match x, y with
  | .ofNat m, .ofNat n => Nat.ble m n
  | .ofNat _, .negSucc _ => false
  | .negSucc _, .ofNat _ => true
  | .negSucc m, .negSucc n => Nat.ble n m
def eqI (x y : Int) : Bool := match x, y with
  | .ofNat m, .ofNat n => Nat.beq m n
  | .negSucc m, .negSucc n => Nat.beq m n
  | _, _ => false
theorem leI_eq (x y : Int) : leI x y = decide (x ≤ y) := by
  cases x <;> cases y <;> rename_i m n <;> simp only [leI]
  · rw [Bool.eq_iff_iff]; simp
  · symm; rw [decide_eq_false_iff_not]; simp only [Int.ofNat_eq_natCast]; omega
  · symm; rw [decide_eq_true_iff]; simp only [Int.ofNat_eq_natCast]; omega
  · rw [Bool.eq_iff_iff]; simp; omega
theorem eqI_eq (x y : Int) : eqI x y = decide (x = y) := by
  cases x <;> cases y <;> rename_i m n <;> simp only [eqI]
  · rw [Bool.eq_iff_iff]; simp; omega
  · symm; rw [decide_eq_false_iff_not]; simp
  · symm; rw [decide_eq_false_iff_not]; simp
  · rw [Bool.eq_iff_iff]; simp

theorem eqI_beq (x y : Int) : eqI x y = (x == y) := by rw [eqI_eq]; rfl
theorem leI_not (x y : Int) : (!leI y x) = decide (x < y) := by
  rw [leI_eq, ← Bool.decide_coe (!decide (y ≤ x))]
  simp only [Bool.not_eq_true', decide_eq_false_iff_not, Int.not_le]

/-- What a binary operation on two values gives. -/
def IsBin (K : Tab) (op : BinOp) (t : TypeId) (xo yo : Operand) (a b v : AV) : Prop :=
  ∀ (φ : Phi) (w : World) (xa xb : Value), conc φ a = some xa → conc φ b = some xb →
    ∃ x, conc φ v = some x ∧ (do eqGuard op t xo yo xa xb; binOp op t xa xb : Sem Value).run K.P w = .ok x w

structure CB where
  go : AV → AV → (AV → Bool) → Bool
def CB.none : CB := ⟨fun _ _ _ => false⟩
def CB.Good (K : Tab) (op : BinOp) (t : TypeId) (xo yo : Operand) (c : CB) : Prop := ∀ a b k, c.go a b k = true → ∃ v, IsBin K op t xo yo a b v ∧ k v = true

theorem run_guard_plain {P : Program} (op : BinOp) (t : TypeId) (xo yo : Operand) (a b : Value) (w : World) (h1 : ∀ xs, a ≠ .agg xs) (h2 : a ≠ .nilIface ∨ b ≠ .nilIface) :
    (eqGuard op t xo yo a b).run P w = .ok () w := by
  cases op <;> first | rfl | skip
  all_goals
    simp only [eqGuard]
    split
    · rfl
    · split
      · simp_all
      · exact absurd rfl (h1 _)
      · rfl

/-- Operations on numbers, by the operation. -/
def intB (op : BinOp) : CB :=
  match op with
  | .add => ⟨fun a b k => match a, b with
    | .int i x, .int j y => cond (Nat.beq (kindNo i) (kindNo j)) (forceI (wrapA i (x + y)) fun n => k (.int i n)) false
    | _, _ => false⟩
  | .sub => ⟨fun a b k => match a, b with
    | .int i x, .int j y => cond (Nat.beq (kindNo i) (kindNo j)) (forceI (wrapA i (x - y)) fun n => k (.int i n)) false
    | _, _ => false⟩
  | .mul => ⟨fun a b k => match a, b with
    | .int i x, .int j y => cond (Nat.beq (kindNo i) (kindNo j)) (forceI (wrapA i (x * y)) fun n => k (.int i n)) false
    | _, _ => false⟩
  | .quo => ⟨fun a b k => match a, b with
    | .int i x, .int j y => cond (Nat.beq (kindNo i) (kindNo j) && !eqI y 0) (forceI (wrapA i (x.tdiv y)) fun n => k (.int i n)) false
    | _, _ => false⟩
  | .rem => ⟨fun a b k => match a, b with
    | .int i x, .int j y => cond (Nat.beq (kindNo i) (kindNo j) && !eqI y 0) (forceI (x.tmod y) fun n => k (.int i n)) false
    | _, _ => false⟩
  | .and => ⟨fun a b k => match a, b with
    | .int i x, .int j y => cond (Nat.beq (kindNo i) (kindNo j)) (forceI (wrapA i (BitVec.ofInt i.bits x &&& BitVec.ofInt i.bits y).toNat) fun n => k (.int i n)) false
    | _, _ => false⟩
  | .or => ⟨fun a b k => match a, b with
    | .int i x, .int j y => cond (Nat.beq (kindNo i) (kindNo j)) (forceI (wrapA i (BitVec.ofInt i.bits x ||| BitVec.ofInt i.bits y).toNat) fun n => k (.int i n)) false
    | _, _ => false⟩
  | .xor => ⟨fun a b k => match a, b with
    | .int i x, .int j y => cond (Nat.beq (kindNo i) (kindNo j)) (forceI (wrapA i (BitVec.ofInt i.bits x ^^^ BitVec.ofInt i.bits y).toNat) fun n => k (.int i n)) false
    | _, _ => false⟩
  | .andNot => ⟨fun a b k => match a, b with
    | .int i x, .int j y => cond (Nat.beq (kindNo i) (kindNo j)) (forceI (wrapA i (BitVec.ofInt i.bits x &&& ~~~ BitVec.ofInt i.bits y).toNat) fun n => k (.int i n)) false
    | _, _ => false⟩
  | .shl => ⟨fun a b k => match a, b with
    | .int i x, .int _ y => cond (leI 0 y) (forceI (wrapA i (x * 2 ^ min y.toNat i.bits)) fun n => k (.int i n)) false
    | _, _ => false⟩
  | .shr => ⟨fun a b k => match a, b with
    | .int i x, .int _ y => cond (leI 0 y) (forceI (x.fdiv (2 ^ min y.toNat i.bits)) fun n => k (.int i n)) false
    | _, _ => false⟩
  | .eql => ⟨fun a b k => match a, b with
    | .int i x, .int j y => cond (Nat.beq (kindNo i) (kindNo j)) (forceB (eqI x y) fun n => k (.bool n)) false
    | _, _ => false⟩
  | .neq => ⟨fun a b k => match a, b with
    | .int i x, .int j y => cond (Nat.beq (kindNo i) (kindNo j)) (forceB (!eqI x y) fun n => k (.bool n)) false
    | _, _ => false⟩
  | .lss => ⟨fun a b k => match a, b with
    | .int i x, .int j y => cond (Nat.beq (kindNo i) (kindNo j)) (forceB (!leI y x) fun n => k (.bool n)) false
    | _, _ => false⟩
  | .leq => ⟨fun a b k => match a, b with
    | .int i x, .int j y => cond (Nat.beq (kindNo i) (kindNo j)) (forceB (leI x y) fun n => k (.bool n)) false
    | _, _ => false⟩
  | .gtr => ⟨fun a b k => match a, b with
    | .int i x, .int j y => cond (Nat.beq (kindNo i) (kindNo j)) (forceB (!leI x y) fun n => k (.bool n)) false
    | _, _ => false⟩
  | .geq => ⟨fun a b k => match a, b with
    | .int i x, .int j y => cond (Nat.beq (kindNo i) (kindNo j)) (forceB (leI y x) fun n => k (.bool n)) false
    | _, _ => false⟩

theorem intB_good (K : Tab) (op : BinOp) (t : TypeId) (xo yo : Operand) : CB.Good K op t xo yo (intB op) := by
  intro a b k h
  cases op <;> simp only [intB] at h <;>
    (match a, b, h with
     | .int i x, .int j y, h =>
       obtain ⟨hc, h⟩ := cond_true_of h
       simp only [forceI_eq, forceB_eq] at h
       refine ⟨_, fun φ w xa xb ha hb => ⟨_, rfl, ?_⟩, h⟩
       obtain rfl := conc_int ha
       obtain rfl := conc_int hb
       try simp only [Bool.and_eq_true, Bool.not_eq_true'] at hc
       simp only [Sem.run_bind, run_guard_plain (P := K.P) _ t xo yo (.int i x) (.int j y) w (by simp) (by simp), Result.andThen_ok]
       first
         | (obtain rfl := kindNo_inj hc; simp [binOp, Op.intArith, Op.intBits, wrapA_eq]; done)
         | (obtain rfl := kindNo_inj hc
            simp only [leI_not]
            simp only [binOp, Op.intCmp, ne_eq, not_true_eq_false, if_false, Sem.run_pure, gt_iff_lt]; done)
         | (obtain rfl := kindNo_inj hc
            simp only [binOp, Op.intCmp, eqI_beq, leI_eq, bne, ne_eq, not_true_eq_false, if_false, Sem.run_pure, ge_iff_le]; done)
         | (obtain ⟨hc, h0⟩ := hc; obtain rfl := kindNo_inj hc
            have hy : ¬ y = 0 := by simpa [eqI_eq] using h0
            simp [binOp, Op.intDiv, hy, wrapA_eq]; done)
         | (have hy : ¬ y < 0 := by simpa [leI_eq] using hc
            simp [binOp, Op.shift, hy, wrapA_eq]; done)
         | skip)

end GoX
