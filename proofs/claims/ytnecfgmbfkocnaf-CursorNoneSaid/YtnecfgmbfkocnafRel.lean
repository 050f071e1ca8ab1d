/-
  A REGION THAT DRAWS ITS ORDER, EACH OPERATION BY WHAT IT HANDS ON: whatever order is drawn, each operation meets what those handed on that it waits for. No function is named here.
-/
import Derived.Test.YtnecfgmbfkocnafRows1
import Derived.Orders
namespace Go.Proofs.Ytnecfgmbfkocnaf
open Go.ChangeShapes Go.WideShapes Go.ChangeAt Go.RowKit

namespace Rel
/-- Whom an operation waits for. -/
def deps (o : Oper) : List Nat := (o.after.toList.filter fun e => Region.binds .any e).map (·.on)
/-- Each waits for elder ones alone, and no two hand on in one slot. -/
def fitB (l : List Oper) (n : Nat) : Bool :=
  (List.range l.length).all fun i => (l[i]?.map fun o => (deps o).all (· < i) && (match o.dst with | none => true | some t => decide (t < n) && (List.range l.length).all fun j => j == i || (l[j]?.map fun o' => o'.dst != some t).getD true)).getD true
theorem fitB_deps {l : List Oper} {n : Nat} (h : fitB l n = true) {i : Nat} {o : Oper} (ho : l[i]? = some o) : ∀ j ∈ deps o, j < i := by
  have hi := (List.getElem?_eq_some_iff.1 ho).1
  have h1 := List.all_eq_true.1 h i (List.mem_range.2 hi)
  simp only [ho, Option.map_some, Option.getD_some, Bool.and_eq_true] at h1
  intro j hj
  simpa using List.all_eq_true.1 h1.1 j hj
theorem fitB_dst {l : List Oper} {n : Nat} (h : fitB l n = true) {i : Nat} {o : Oper} {t : Tmp} (ho : l[i]? = some o) (ht : o.dst = some t) : t < n ∧ ∀ j o', l[j]? = some o' → j ≠ i → o'.dst ≠ some t := by
  have hi := (List.getElem?_eq_some_iff.1 ho).1
  have h1 := List.all_eq_true.1 h i (List.mem_range.2 hi)
  simp only [ho, Option.map_some, Option.getD_some, ht, Bool.and_eq_true] at h1
  refine ⟨by simpa using h1.2.1, fun j o' hj hne => ?_⟩
  have h2 := List.all_eq_true.1 h1.2.2 j (List.mem_range.2 (List.getElem?_eq_some_iff.1 hj).1)
  simp only [hj, Option.map_some, Option.getD_some, Bool.or_eq_true] at h2
  rcases h2 with h2 | h2
  · exact absurd (by simpa using h2) hne
  · simpa using h2

theorem ready_mem {l : List Oper} {listed : Array Bool} {i : Nat} (h : i ∈ Region.ready .any l.toArray listed) : ∃ o, l[i]? = some o ∧ listed.getD i true = false ∧ ∀ j ∈ deps o, listed.getD j false = true := by
  unfold Region.ready at h
  rw [List.mem_filter] at h
  obtain ⟨h1, h2⟩ := h
  have hi : i < l.length := by simpa using h1
  have ho : l[i]? = some l[i] := List.getElem?_eq_getElem hi
  simp only [List.getElem?_toArray, ho, Option.map_some, Option.getD_some, Bool.and_eq_true, Bool.not_eq_true', Array.all_eq_true] at h2
  refine ⟨_, ho, h2.1, fun j hj => ?_⟩
  unfold deps at hj
  simp only [List.mem_map, List.mem_filter, Array.mem_toList_iff] at hj
  obtain ⟨e, ⟨he, hb⟩, rfl⟩ := hj
  obtain ⟨k, hk, rfl⟩ := Array.getElem_of_mem he
  have := h2.2 k hk
  simpa [hb] using this
theorem ready_of {l : List Oper} {listed : Array Bool} {i : Nat} {o : Oper} (ho : l[i]? = some o) (h1 : listed.getD i true = false) (h2 : ∀ j ∈ deps o, listed.getD j false = true) : i ∈ Region.ready .any l.toArray listed := by
  unfold Region.ready
  rw [List.mem_filter]
  refine ⟨List.mem_range.2 (by simpa using (List.getElem?_eq_some_iff.1 ho).1), ?_⟩
  simp only [List.getElem?_toArray, ho, Option.map_some, Option.getD_some, Bool.and_eq_true, Bool.not_eq_true', Array.all_eq_true]
  refine ⟨h1, fun k hk => ?_⟩
  by_cases hb : Region.binds .any o.after[k] = true
  · have := h2 o.after[k].on (by unfold deps; simp only [List.mem_map, List.mem_filter, Array.mem_toList_iff]; exact ⟨_, ⟨Array.getElem_mem hk, hb⟩, rfl⟩)
    simp [this]
  · simp at hb; simp [hb]

def left (n : Nat) (listed : Array Bool) : Nat := (List.range n).countP fun i => !listed.getD i true
theorem countP_less {p q : Nat → Bool} : ∀ (l : List Nat) (x : Nat), x ∈ l → q x = true → p x = false → (∀ y, p y = true → q y = true) → l.countP p < l.countP q
  | y :: l, x, hx, hq, hp, h => by
    rw [List.countP_cons, List.countP_cons]
    have hle : l.countP p ≤ l.countP q := List.countP_mono_left fun z _ hz => h z hz
    rcases List.mem_cons.1 hx with rfl | hx
    · simp [hq, hp]; omega
    · have := countP_less l x hx hq hp h
      by_cases hy : p y = true
      · simp [hy, h y hy]; omega
      · simp [hy]; split <;> omega
theorem left_set {n i : Nat} {listed : Array Bool} (hi : i < n) (h : listed.getD i true = false) : left n (listed.setIfInBounds i true) < left n listed := by
  have hs : i < listed.size := by
    rcases Nat.lt_or_ge i listed.size with h' | h'
    · exact h'
    · rw [Array.getD_eq_getD_getElem?, Array.getElem?_eq_none h'] at h; cases h
  refine countP_less _ i (List.mem_range.2 hi) (by simp only [h]; rfl) ?_ fun y hy => ?_
  · rw [Array.getD_eq_getD_getElem?, Array.getElem?_setIfInBounds]; simp [hs]
  · rw [Array.getD_eq_getD_getElem?, Array.getElem?_setIfInBounds] at hy
    rw [Array.getD_eq_getD_getElem?]
    by_cases e : i = y
    · subst e; simp [hs] at hy
    · simpa [e] using hy

/-- No operation hands on in slot t. -/
def freeB (l : List Oper) (t : Nat) : Bool := l.all fun o => o.dst != some t
theorem freeB_spec {l : List Oper} {t : Nat} (h : freeB l t = true) {o : Oper} (ho : o ∈ l) : o.dst ≠ some t := by
  simpa using List.all_eq_true.1 h o ho
/-- What stands behind the operations that have run. -/
structure Inv (l : List Oper) (a0 : Act) (Cl : World → Prop) (R : Nat → Value → World → Prop) (listed : Array Bool) (a : Act) (w : World) : Prop where
  cl : Cl w
  defers : a.defers = a0.defers
  size : a.tmps.size = a0.tmps.size
  rest : ∀ t, freeB l t = true → a.tmps[t]? = a0.tmps[t]?
  has : ∀ j o, l[j]? = some o → listed.getD j false = true → ∃ v, (∀ t, o.dst = some t → a.tmps[t]? = some v) ∧ R j v w

theorem put_tmps (a : Act) (d : Option Tmp) (v : Value) : (a.put d v).defers = a.defers ∧ (a.put d v).tmps.size = a.tmps.size ∧ (∀ t, d ≠ some t → (a.put d v).tmps[t]? = a.tmps[t]?) ∧ ∀ t, d = some t → t < a.tmps.size → (a.put d v).tmps[t]? = some v := by
  cases d with
  | none => exact ⟨rfl, rfl, fun _ _ => rfl, fun _ h => by cases h⟩
  | some d =>
    refine ⟨rfl, by simp [Act.put], fun t ht => ?_, fun t ht hs => ?_⟩
    · have : d ≠ t := fun e => ht (by rw [e])
      simp [Act.put, this]
    · cases ht; simp [Act.put, hs]

variable {P : Program} {l : List Oper} {Q : Exit → Act → World → Prop} {a0 : Act} {Cl : World → Prop} {R : Nat → Value → World → Prop} {St : World → World → Prop}
theorem any_of (hf : fitB l a0.tmps.size = true) (hst : ∀ i v w w', R i v w → St w w' → R i v w')
    (hob : ∀ i o, l[i]? = some o → ∀ a w, Cl w → (∀ t, freeB l t = true → a.tmps[t]? = a0.tmps[t]?) → (∀ j ∈ deps o, ∀ o', l[j]? = some o' → ∃ v, (∀ t, o'.dst = some t → a.tmps[t]? = some v) ∧ R j v w) →
      ∀ K : Act → World → Prop, (∀ v w', Cl w' → St w w' → R i v w' → K (a.put o.dst v) w') → wpOp P l.toArray Q i K a w)
    (hend : ∀ a w, Cl w → a.defers = a0.defers → a.tmps.size = a0.tmps.size → (∀ t, freeB l t = true → a.tmps[t]? = a0.tmps[t]?) → (∀ j o, l[j]? = some o → ∃ v, (∀ t, o.dst = some t → a.tmps[t]? = some v) ∧ R j v w) → Q .normal a w) :
    ∀ (fuel : Nat) (listed : Array Bool) (a : Act) (w : World), listed.size = l.length → left l.length listed ≤ fuel → Inv l a0 Cl R listed a w → wpAny P .any l.toArray Q fuel listed a w := by
  have same : ∀ (listed : Array Bool) (j : Nat), j < listed.size → listed.getD j true = listed.getD j false := fun listed j hj => by
    rw [Array.getD_eq_getD_getElem?, Array.getD_eq_getD_getElem?, Array.getElem?_eq_getElem hj]; rfl
  have full : ∀ (listed : Array Bool), listed.size = l.length → Region.ready .any l.toArray listed = [] → ∀ j, j < l.length → listed.getD j false = true := fun listed hs hr j => by
    induction j using Nat.strongRecOn with
    | ind j ih =>
      intro hj
      cases hd : listed.getD j false with
      | true => rfl
      | false =>
        have ho : l[j]? = some l[j] := List.getElem?_eq_getElem hj
        have := ready_of ho ((same listed j (by omega)).trans hd) fun k hk => ih k (fitB_deps hf ho k hk) (by have := fitB_deps hf ho k hk; omega)
        rw [hr] at this; cases this
  have done : ∀ (listed : Array Bool) (a : Act) (w : World), listed.size = l.length → Inv l a0 Cl R listed a w → Region.ready .any l.toArray listed = [] → Q .normal a w := fun listed a w hs hI hr =>
    hend a w hI.cl hI.defers hI.size hI.rest fun j o hj => hI.has j o hj (full listed hs hr j (List.getElem?_eq_some_iff.1 hj).1)
  intro fuel
  induction fuel with
  | zero =>
    intro listed a w hs hn hI
    have hr : Region.ready .any l.toArray listed = [] := by
      cases hr : Region.ready .any l.toArray listed with
      | nil => rfl
      | cons i rs =>
        obtain ⟨o, ho, h1, _⟩ := ready_mem (i := i) (l := l) (listed := listed) (by rw [hr]; simp)
        have := left_set (listed := listed) (List.getElem?_eq_some_iff.1 ho).1 h1
        omega
    exact ⟨hr, done listed a w hs hI hr⟩
  | succ fuel ih =>
    intro listed a w hs hn hI
    refine ⟨done listed a w hs hI, fun i hi => ?_⟩
    obtain ⟨o, ho, h1, h2⟩ := ready_mem hi
    have hil := (List.getElem?_eq_some_iff.1 ho).1
    refine hob i o ho a w hI.cl hI.rest (fun j hj o' ho' => hI.has j o' ho' (h2 j hj)) _ fun v w' hc hB hv => ?_
    obtain ⟨p1, p2, p3, p4⟩ := put_tmps a o.dst v
    refine ih _ _ _ (by simpa using hs) (by have := left_set hil h1; omega) ⟨hc, p1.trans hI.defers, p2.trans hI.size, fun t ht => ?_, fun j o' hj hl => ?_⟩
    · exact (p3 t (freeB_spec ht (List.mem_of_getElem? ho))).trans (hI.rest t ht)
    · by_cases e : j = i
      · subst e
        rw [ho] at hj
        cases hj
        exact ⟨v, fun t ht => p4 t ht (by have := (fitB_dst hf ho ht).1; rw [hI.size]; exact this), hv⟩
      · have hl' : listed.getD j false = true := by
          rw [Array.getD_eq_getD_getElem?, Array.getElem?_setIfInBounds] at hl
          rw [Array.getD_eq_getD_getElem?]
          simpa [show ¬ i = j from fun h => e h.symm] using hl
        obtain ⟨u, hu, hr⟩ := hI.has j o' hj hl'
        refine ⟨u, fun t ht => (p3 t fun hd => ?_).trans (hu t ht), hst j u w w' hr hB⟩
        exact (fitB_dst hf ho hd).2 j o' hj e ht

theorem wp_region_rel {id : Nat} {w : World} (Cl : World → Prop) (St : World → World → Prop) (R : Nat → Value → World → Prop) (hm : P.follows .mixedOrders = true) (hf : fitB l a0.tmps.size = true) (hst : ∀ i v w w', R i v w → St w w' → R i v w') (hC : Cl w.drew)
    (hob : ∀ i o, l[i]? = some o → ∀ a w, Cl w → (∀ t, freeB l t = true → a.tmps[t]? = a0.tmps[t]?) → (∀ j ∈ deps o, ∀ o', l[j]? = some o' → ∃ v, (∀ t, o'.dst = some t → a.tmps[t]? = some v) ∧ R j v w) →
      ∀ K : Act → World → Prop, (∀ v w', Cl w' → St w w' → R i v w' → K (a.put o.dst v) w') → wpOp P l.toArray Q i K a w)
    (hend : ∀ a w, Cl w → a.defers = a0.defers → a.tmps.size = a0.tmps.size → (∀ t, freeB l t = true → a.tmps[t]? = a0.tmps[t]?) → (∀ j o, l[j]? = some o → ∃ v, (∀ t, o.dst = some t → a.tmps[t]? = some v) ∧ R j v w) → Q .normal a w) :
    (Code.region id l.toArray true).wp P Q a0 w := by
  refine wp_region_any hm ?_
  refine any_of hf hst hob hend _ _ _ _ (by simp) (by
    unfold left
    exact Nat.le_trans List.countP_le_length (by simp)) ⟨hC, rfl, rfl, fun _ _ => rfl, fun j o hj hl => ?_⟩
  exfalso
  rw [Array.getD_eq_getD_getElem?, Array.getElem?_replicate] at hl
  split at hl <;> cases hl

/-! ### Single operations -/
theorem wanted_of {ops : Array Oper} {o : Oper} {a : Act} {j t : Nat} {b : Bool} (hg : o.guard = some (j, b)) (ht : (ops[j]?).bind (·.dst) = some t) (h : a.tmps[t]? = some (.bool b)) : Region.wanted o (yielded ops a.tmps) = true := by
  simp [Region.wanted, hg, yielded, ht, h]
theorem op_of {ops : Array Oper} {i : Nat} {o : Oper} {a : Act} {w : World} {K : Act → World → Prop} (ho : ops[i]? = some o) (hw : Region.wanted o (yielded ops a.tmps) = true) (h : o.wp P a w K Q) : wpOp P ops Q i K a w := by
  unfold wpOp
  rw [ho]
  simp only [hw, if_true]
  exact .inl h
theorem eval_tmp {a : Act} {t : Nat} {v : Value} (h : a.tmps[t]? = some v) : a.eval (.tmp t) = v := by
  simp [Act.eval, Array.getD_eq_getD_getElem?, h]
theorem getD_tmp {a : Act} {t : Nat} {v : Value} (h : a.tmps[t]? = some v) : a.tmps.getD t undef = v := by
  simp [Array.getD_eq_getD_getElem?, h]
theorem wp_call {o : Oper} {a : Act} {w : World} {K : Act → World → Prop} {f : FuncId} {args : Array Operand} {ats : Array TypeId} {vs : Array Value} (hop : o.op = .call { callee := .value (.func f), args := args, argTypes := ats }) (hE : ∀ args w, (callFunc f args).run P w = .ok (.enter f args) w) (hv : args.map a.eval = vs)
    (h : Calls P f vs w fun e w' => ∃ v, e = .returned v ∧ K (a.put o.dst v) w') : o.wp P a w K Q := by
  have e : execOp a.eval o = callFunc f (#[] ++ args.map a.eval ++ #[]) := by
    cases o
    cases hop
    rfl
  unfold Oper.wp
  rw [e, hE, hv]
  simp only [Array.empty_append, Array.append_empty]
  exact h.mono fun e w' ⟨v, he, hk⟩ => by subst he; exact hk
theorem wp_move {o : Oper} {a : Act} {w : World} {K : Act → World → Prop} {x : Operand} {v : Value} (hop : o.op = .move x) (hx : a.eval x = v) (h : K (a.put o.dst v) w) : o.wp P a w K Q := by
  unfold Oper.wp
  rw [BigFrame.run_move x hop, hx]
  exact h
theorem wp_assign {o : Oper} {a : Act} {w : World} {K : Act → World → Prop} {x : Operand} {v : Value} (hop : o.op = .assign x) (hx : a.eval x = v) (h : K (a.put o.dst v) w) : o.wp P a w K Q := by
  unfold Oper.wp
  rw [BigFrame.run_assign x hop, hx]
  exact h
end Rel
end Go.Proofs.Ytnecfgmbfkocnaf
