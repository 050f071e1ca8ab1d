/-
  THE OPERATIONS THAT CHANGE MEMORY: append. No program is named here.
-/
import Derived.Test.YtnmjhbnadfjapaaXHeavy7
namespace GoX
open Go

def isIntD : TypeDesc → Bool
  | .int _ => true
  | _ => false

theorem grow_le (n : Nat) : ∀ (r c : Nat), c < n → Builtin.growBy n r c ≤ 2 * n + 768
  | 0, c, h => by simp only [Builtin.growBy]; omega
  | r + 1, c, h => by
    simp only [Builtin.growBy]
    split
    · omega
    · by_cases h2 : c + (c + 768) / 4 < n
      · exact grow_le n r _ h2
      · have : Builtin.growBy n r (c + (c + 768) / 4) = c + (c + 768) / 4 := by
          cases r with
          | zero => rfl
          | succ r => simp only [Builtin.growBy]; rw [if_pos (by omega)]
        rw [this]; omega
theorem next_le {need cap : Nat} (h : cap < need) : Builtin.nextslicecap need cap ≤ 2 * need + 768 := by
  unfold Builtin.nextslicecap
  split
  · omega
  · split
    · omega
    · exact grow_le need 4 cap h

theorem append_place {K : Tab} (hK : K.Ok) {argTypes : Array TypeId} {st xt e : TypeId} {xd : TypeDesc} {i : TypeInfo} (h0 : argTypes[0]? = some st) (h1 : argTypes[1]? = some xt) (hs : K.und st = some (.slice e)) (hx : K.und xt = some xd)
    (hd : isIntD xd = false) (hi : K.inf e = some i) {p : Option Addr} {len cp n : Nat} {x : Value} {w w' : World} {xs : List Value} (hl : (Builtin.lenOf x).run K.P w = .ok n w) (hle : len + n ≤ cp)
    (hf : (Builtin.firstCells i.size n x).run K.P w = .ok xs.toArray w) (hst : match p with | some a => (storeCells (a.add (len * i.size)) xs).run K.P w = .ok () w' | none => w' = w) (t : TypeId) :
    (Builtin.append_ argTypes t #[.slice p len cp, x]).run K.P w = .ok (.slice p (len + n) cp) w' := by
  have hz : (match xd with | .int _ => true | _ => false) = false := by cases xd <;> first | rfl | cases hd
  cases p with
  | none =>
    subst hst
    simp only [Builtin.append_, h0, h1, List.getElem?_toArray, List.getElem?_cons_zero, List.getElem?_cons_succ, Sem.run_bind, hK.runUnd hs, hK.runUnd hx, Result.andThen_ok, runSize hK hi, Sem.run_pure]
    cases xd <;> first | (cases hd; done) | skip
    all_goals
      simp only [Bool.false_eq_true, if_false, Sem.run_bind, hl, Result.andThen_ok, Sem.run_ite]
      rw [if_pos hle]
      simp only [Bool.not_false, if_true, hf, Result.andThen_ok, Sem.run_pure]
  | some a =>
    simp only [Builtin.append_, h0, h1, List.getElem?_toArray, List.getElem?_cons_zero, List.getElem?_cons_succ, Sem.run_bind, hK.runUnd hs, hK.runUnd hx, Result.andThen_ok, runSize hK hi, Sem.run_pure]
    cases xd <;> first | (cases hd; done) | skip
    all_goals
      simp only [Bool.false_eq_true, if_false, Sem.run_bind, hl, Result.andThen_ok, Sem.run_ite]
      rw [if_pos hle]
      simp only [Bool.not_false, if_true, hf, Result.andThen_ok, Sem.run_pure, hst]

theorem append_grow {K : Tab} (hK : K.Ok) {argTypes : Array TypeId} {st xt e : TypeId} {xd : TypeDesc} {i : TypeInfo} (h0 : argTypes[0]? = some st) (h1 : argTypes[1]? = some xt) (hs : K.und st = some (.slice e)) (hx : K.und xt = some xd)
    (hd : isIntD xd = false) (hi : K.inf e = some i) {p : Option Addr} {len cp n : Nat} {x : Value} {w : World} {xs os : List Value} (hl : (Builtin.lenOf x).run K.P w = .ok n w) (hgt : ¬ len + n ≤ cp)
    (hsm : len + n < 140737488355328) (hb : (2 * (len + n) + 768) * i.bytes ≤ 140737488355328)
    (hf : ∀ w1 : World, w1.heap = w.heap → (Builtin.firstCells i.size n x).run K.P w1 = .ok xs.toArray w1)
    (ho : ∀ w1 : World, w1.heap = w.heap → (Builtin.firstCells i.size len (.slice p len cp)).run K.P w1 = .ok os.toArray w1)
    {zv : Value} {zs : List Value} (hz : i.zero = some zv) (hzc : zv.cells = zs.toArray) (t : TypeId) :
    ∃ newCap, len + n ≤ newCap ∧ (Builtin.append_ argTypes t #[.slice p len cp, x]).run K.P w =
      .ok (.slice (some ⟨w.heap.size, 0, none⟩) (len + n) newCap) { w with drawn := w.drawn + 1, heap := w.heap.push (.cells (os ++ (xs ++ rep zs (newCap - (len + n)))).toArray e) } := by
  have hnext : ¬ Builtin.nextslicecap (len + n) cp * i.bytes > 2 ^ 48 := by
    have h2 := next_le (show cp < len + n by omega)
    have h3 : Builtin.nextslicecap (len + n) cp * i.bytes ≤ (2 * (len + n) + 768) * i.bytes := Nat.mul_le_mul_right _ h2
    have e48 : (2 : Nat) ^ 48 = 281474976710656 := by decide
    rw [e48]; omega
  have hmax : ¬ (((len + n : Nat) : Int) > IntKind.i64.max ∧ (False ∨ i.bytes = 0)) := by
    have : IntKind.i64.max = 9223372036854775807 := by decide
    rw [this]; omega
  have hzr : ∀ w : World, (zeroValue e).run K.P w = .ok zv w := fun w => by simp [zeroValue, hK.runInf hi, hz]
  refine ⟨(Question.appendCap (len + n) cp e).cut (w.tape w.drawn (.appendCap (len + n) cp e)), by simp only [Question.cut]; omega, ?_⟩
  generalize hnc : (Question.appendCap (len + n) cp e).cut (w.tape w.drawn (.appendCap (len + n) cp e)) = newCap
  have hge : len + n ≤ newCap := by rw [← hnc]; simp only [Question.cut]; omega
  have hrest : Builtin.zeroCells zv.cells (newCap - (len + n)) = (rep zs (newCap - (len + n))).toArray := by
    unfold Builtin.zeroCells
    rw [hzc]
    simp only [List.size_toArray]
    exact rep_range zs _
  simp only [Builtin.append_, h0, h1, List.getElem?_toArray, List.getElem?_cons_zero, List.getElem?_cons_succ, Sem.run_bind, hK.runUnd hs, hK.runUnd hx, Result.andThen_ok, runSize hK hi, Sem.run_pure]
  have hf' : (Builtin.firstCells i.size n x).run K.P { w with drawn := w.drawn + 1 } = .ok xs.toArray { w with drawn := w.drawn + 1 } := hf _ rfl
  have ho' : (Builtin.firstCells i.size len (.slice p len cp)).run K.P { w with drawn := w.drawn + 1 } = .ok os.toArray { w with drawn := w.drawn + 1 } := ho _ rfl
  cases xd <;> first | (cases hd; done) | skip
  all_goals
    simp only [Bool.false_eq_true, if_false, Sem.run_bind, hl, Result.andThen_ok, Sem.run_ite]
    rw [if_neg hgt]
    simp only [hK.runInf hi, Result.andThen_ok]
    rw [if_neg hmax]
    simp only [Sem.run_pure]
    rw [if_neg hnext]
    simp only [Sem.run_pure, Result.andThen_ok, run_choose, Question.forced, Bool.false_eq_true, if_false, hnc, run_askRoom, ho', hf', Bool.not_false, if_true, hzr, hrest, newRow, Sem.run_bind, run_newObj]
    simp

end GoX
