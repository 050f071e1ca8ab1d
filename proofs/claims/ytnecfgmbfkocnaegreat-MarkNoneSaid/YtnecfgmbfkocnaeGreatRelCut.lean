/-
  A REGION THAT DRAWS ITS ORDER, EACH OPERATION BY WHAT IT HANDS ON: whatever order is drawn, each operation meets what those handed on that it waits for. No function is named here.
-/
import Derived.Test.YtnecfgmbfkocnaeGreatSl
import Derived.Orders
namespace Go.Proofs.YtnecfgmbfkocnaeGreat
open Go.ChangeShapes Go.WideShapes Go.ChangeAt Go.RowKit

namespace Rel
/-- Whom an operation waits for. -/
def deps (o : Oper) : List Nat := (o.after.toList.filter fun e => Region.binds .any e).map (·.on)
/-- Each waits for elder ones alone, and no two hand on in one slot. -/
def fitB (l : List Oper) (n : Nat) : Bool :=
  (List.range l.length).all fun i => (l[i]?.map fun o => (deps o).all (· < i) && (match o.dst with | none => true | some t => decide (t < n) && (List.range l.length).all fun j => j == i || (l[j]?.map fun o' => o'.dst != some t).getD true)).getD true
theorem fitB_deps {l : List Oper} {n : Nat} (h : fitB l n = true) {i : Nat} {o : Oper} (ho : l[i]? = some o) : ∀ j ∈ deps o, j < i := by
  have hi := (List.getElem?_eq_some_iff.1 ho).1
  have h1 := List.all_eq_true.1 h i (List.mem_range.2 hi)
  simp only [ho, Option.map_some, Option.getD_some, Bool.and_eq_true] at h1
  intro j hj
  simpa using List.all_eq_true.1 h1.1 j hj
theorem fitB_dst {l : List Oper} {n : Nat} (h : fitB l n = true) {i : Nat} {o : Oper} {t : Tmp} (ho : l[i]? = some o) (ht : o.dst = some t) : t < n ∧ ∀ j o', l[j]? = some o' → j ≠ i → o'.dst ≠ some t := by
  have hi := (List.getElem?_eq_some_iff.1 ho).1
  have h1 := List.all_eq_true.1 h i (List.mem_range.2 hi)
  simp only [ho, Option.map_some, Option.getD_some, ht, Bool.and_eq_true] at h1
  refine ⟨by simpa using h1.2.1, fun j o' hj hne => ?_⟩
  have h2 := List.all_eq_true.1 h1.2.2 j (List.mem_range.2 (List.getElem?_eq_some_iff.1 hj).1)
  simp only [hj, Option.map_some, Option.getD_some, Bool.or_eq_true] at h2
  rcases h2 with h2 | h2
  · exact absurd (by simpa using h2) hne
  · simpa using h2

theorem ready_mem {l : List Oper} {listed : Array Bool} {i : Nat} (h : i ∈ Region.ready .any l.toArray listed) : ∃ o, l[i]? = some o ∧ listed.getD i true = false ∧ ∀ j ∈ deps o, listed.getD j false = true := by
  unfold Region.ready at h
  rw [List.mem_filter] at h
  obtain ⟨h1, h2⟩ := h
  have hi : i < l.length := by simpa using h1
  have ho : l[i]? = some l[i] := List.getElem?_eq_getElem hi
  simp only [List.getElem?_toArray, ho, Option.map_some, Option.getD_some, Bool.and_eq_true, Bool.not_eq_true', Array.all_eq_true] at h2
  refine ⟨_, ho, h2.1, fun j hj => ?_⟩
  unfold deps at hj
  simp only [List.mem_map, List.mem_filter, Array.mem_toList_iff] at hj
  obtain ⟨e, ⟨he, hb⟩, rfl⟩ := hj
  obtain ⟨k, hk, rfl⟩ := Array.getElem_of_mem he
  have := h2.2 k hk
  simpa [hb] using this
theorem ready_of {l : List Oper} {listed : Array Bool} {i : Nat} {o : Oper} (ho : l[i]? = some o) (h1 : listed.getD i true = false) (h2 : ∀ j ∈ deps o, listed.getD j false = true) : i ∈ Region.ready .any l.toArray listed := by
  unfold Region.ready
  rw [List.mem_filter]
  refine ⟨List.mem_range.2 (by simpa using (List.getElem?_eq_some_iff.1 ho).1), ?_⟩
  simp only [List.getElem?_toArray, ho, Option.map_some, Option.getD_some, Bool.and_eq_true, Bool.not_eq_true', Array.all_eq_true]
  refine ⟨h1, fun k hk => ?_⟩
  by_cases hb : Region.binds .any o.after[k] = true
  · have := h2 o.after[k].on (by unfold deps; simp only [List.mem_map, List.mem_filter, Array.mem_toList_iff]; exact ⟨_, ⟨Array.getElem_mem hk, hb⟩, rfl⟩)
    simp [this]
  · simp at hb; simp [hb]

def left (n : Nat) (listed : Array Bool) : Nat := (List.range n).countP fun i => !listed.getD i true
theorem countP_less {p q : Nat → Bool} : ∀ (l : List Nat) (x : Nat), x ∈ l → q x = true → p x = false → (∀ y, p y = true → q y = true) → l.countP p < l.countP q
  | y :: l, x, hx, hq, hp, h => by
    rw [List.countP_cons, List.countP_cons]
    have hle : l.countP p ≤ l.countP q := List.countP_mono_left fun z _ hz => h z hz
    rcases List.mem_cons.1 hx with rfl | hx
    · simp [hq, hp]; omega
    · have := countP_less l x hx hq hp h
      by_cases hy : p y = true
      · simp [hy, h y hy]; omega
      · simp [hy]; split <;> omega
theorem left_set {n i : Nat} {listed : Array Bool} (hi : i < n) (h : listed.getD i true = false) : left n (listed.setIfInBounds i true) < left n listed := by
  have hs : i < listed.size := by
    rcases Nat.lt_or_ge i listed.size with h' | h'
    · exact h'
    · rw [Array.getD_eq_getD_getElem?, Array.getElem?_eq_none h'] at h; cases h
  refine countP_less _ i (List.mem_range.2 hi) (by simp only [h]; rfl) ?_ fun y hy => ?_
  · rw [Array.getD_eq_getD_getElem?, Array.getElem?_setIfInBounds]; simp [hs]
  · rw [Array.getD_eq_getD_getElem?, Array.getElem?_setIfInBounds] at hy
    rw [Array.getD_eq_getD_getElem?]
    by_cases e : i = y
    · subst e; simp [hs] at hy
    · simpa [e] using hy

/-- No operation hands on in slot t. -/
def freeB (l : List Oper) (t : Nat) : Bool := l.all fun o => o.dst != some t
theorem freeB_spec {l : List Oper} {t : Nat} (h : freeB l t = true) {o : Oper} (ho : o ∈ l) : o.dst ≠ some t := by
  simpa using List.all_eq_true.1 h o ho
/-- What stands behind the operations that have run. -/
structure Inv (l : List Oper) (a0 : Act) (Cl : World → Prop) (R : Nat → Value → World → Prop) (listed : Array Bool) (a : Act) (w : World) : Prop where
  cl : Cl w
  defers : a.defers = a0.defers
  size : a.tmps.size = a0.tmps.size
  rest : ∀ t, freeB l t = true → a.tmps[t]? = a0.tmps[t]?
  has : ∀ j o, l[j]? = some o → listed.getD j false = true → ∃ v, (∀ t, o.dst = some t → a.tmps[t]? = some v) ∧ R j v w

theorem put_tmps (a : Act) (d : Option Tmp) (v : Value) : (a.put d v).defers = a.defers ∧ (a.put d v).tmps.size = a.tmps.size ∧ (∀ t, d ≠ some t → (a.put d v).tmps[t]? = a.tmps[t]?) ∧ ∀ t, d = some t → t < a.tmps.size → (a.put d v).tmps[t]? = some v := by
  cases d with
  | none => exact ⟨rfl, rfl, fun _ _ => rfl, fun _ h => by cases h⟩
  | some d =>
    refine ⟨rfl, by simp [Act.put], fun t ht => ?_, fun t ht hs => ?_⟩
    · have : d ≠ t := fun e => ht (by rw [e])
      simp [Act.put, this]
    · cases ht; simp [Act.put, hs]

variable {P : Program} {l : List Oper} {Q : Exit → Act → World → Prop} {a0 : Act} {Cl : World → Prop} {R : Nat → Value → World → Prop} {St : World → World → Prop}
theorem any_of (hf : fitB l a0.tmps.size = true) (hst : ∀ i v w w', R i v w → St w w' → R i v w')
    (hob : ∀ i o, l[i]? = some o → ∀ a w, Cl w → (∀ t, freeB l t = true → a.tmps[t]? = a0.tmps[t]?) → (∀ j ∈ deps o, ∀ o', l[j]? = some o' → ∃ v, (∀ t, o'.dst = some t → a.tmps[t]? = some v) ∧ R j v w) →
      ∀ K : Act → World → Prop, (∀ v w', Cl w' → St w w' → R i v w' → K (a.put o.dst v) w') → wpOp P l.toArray Q i K a w)
    (hend : ∀ a w, Cl w → a.defers = a0.defers → a.tmps.size = a0.tmps.size → (∀ t, freeB l t = true → a.tmps[t]? = a0.tmps[t]?) → (∀ j o, l[j]? = some o → ∃ v, (∀ t, o.dst = some t → a.tmps[t]? = some v) ∧ R j v w) → Q .normal a w) :
    ∀ (fuel : Nat) (listed : Array Bool) (a : Act) (w : World), listed.size = l.length → left l.length listed ≤ fuel → Inv l a0 Cl R listed a w → wpAny P .any l.toArray Q fuel listed a w := by
  have same : ∀ (listed : Array Bool) (j : Nat), j < listed.size → listed.getD j true = listed.getD j false := fun listed j hj => by
    rw [Array.getD_eq_getD_getElem?, Array.getD_eq_getD_getElem?, Array.getElem?_eq_getElem hj]; rfl
  have full : ∀ (listed : Array Bool), listed.size = l.length → Region.ready .any l.toArray listed = [] → ∀ j, j < l.length → listed.getD j false = true := fun listed hs hr j => by
    induction j using Nat.strongRecOn with
    | ind j ih =>
      intro hj
      cases hd : listed.getD j false with
      | true => rfl
      | false =>
        have ho : l[j]? = some l[j] := List.getElem?_eq_getElem hj
        have := ready_of ho ((same listed j (by omega)).trans hd) fun k hk => ih k (fitB_deps hf ho k hk) (by have := fitB_deps hf ho k hk; omega)
        rw [hr] at this; cases this
  have done : ∀ (listed : Array Bool) (a : Act) (w : World), listed.size = l.length → Inv l a0 Cl R listed a w → Region.ready .any l.toArray listed = [] → Q .normal a w := fun listed a w hs hI hr =>
    hend a w hI.cl hI.defers hI.size hI.rest fun j o hj => hI.has j o hj (full listed hs hr j (List.getElem?_eq_some_iff.1 hj).1)
  intro fuel
  induction fuel with
  | zero =>
    intro listed a w hs hn hI
    have hr : Region.ready .any l.toArray listed = [] := by
      cases hr : Region.ready .any l.toArray listed with
      | nil => rfl
      | cons i rs =>
        obtain ⟨o, ho, h1, _⟩ := ready_mem (i := i) (l := l) (listed := listed) (by rw [hr]; simp)
        have := left_set (listed := listed) (List.getElem?_eq_some_iff.1 ho).1 h1
        omega
    exact ⟨hr, done listed a w hs hI hr⟩
  | succ fuel ih =>
    intro listed a w hs hn hI
    refine ⟨done listed a w hs hI, fun i hi => ?_⟩
    obtain ⟨o, ho, h1, h2⟩ := ready_mem hi
    have hil := (List.getElem?_eq_some_iff.1 ho).1
    refine hob i o ho a w hI.cl hI.rest (fun j hj o' ho' => hI.has j o' ho' (h2 j hj)) _ fun v w' hc hB hv => ?_
    obtain ⟨p1, p2, p3, p4⟩ := put_tmps a o.dst v
    refine ih _ _ _ (by simpa using hs) (by have := left_set hil h1; omega) ⟨hc, p1.trans hI.defers, p2.trans hI.size, fun t ht => ?_, fun j o' hj hl => ?_⟩
    · exact (p3 t (freeB_spec ht (List.mem_of_getElem? ho))).trans (hI.rest t ht)
    · by_cases e : j = i
      · subst e
        rw [ho] at hj
        cases hj
        exact ⟨v, fun t ht => p4 t ht (by have := (fitB_dst hf ho ht).1; rw [hI.size]; exact this), hv⟩
      · have hl' : listed.getD j false = true := by
          rw [Array.getD_eq_getD_getElem?, Array.getElem?_setIfInBounds] at hl
          rw [Array.getD_eq_getD_getElem?]
          simpa [show ¬ i = j from fun h => e h.symm] using hl
        obtain ⟨u, hu, hr⟩ := hI.has j o' hj hl'
        refine ⟨u, fun t ht => (p3 t fun hd => ?_).trans (hu t ht), hst j u w w' hr hB⟩
        exact (fitB_dst hf ho hd).2 j o' hj e ht

theorem wp_region_rel {id : Nat} {w : World} (Cl : World → Prop) (St : World → World → Prop) (R : Nat → Value → World → Prop) (hm : P.follows .mixedOrders = true) (hf : fitB l a0.tmps.size = true) (hst : ∀ i v w w', R i v w → St w w' → R i v w') (hC : Cl w.drew)
    (hob : ∀ i o, l[i]? = some o → ∀ a w, Cl w → (∀ t, freeB l t = true → a.tmps[t]? = a0.tmps[t]?) → (∀ j ∈ deps o, ∀ o', l[j]? = some o' → ∃ v, (∀ t, o'.dst = some t → a.tmps[t]? = some v) ∧ R j v w) →
      ∀ K : Act → World → Prop, (∀ v w', Cl w' → St w w' → R i v w' → K (a.put o.dst v) w') → wpOp P l.toArray Q i K a w)
    (hend : ∀ a w, Cl w → a.defers = a0.defers → a.tmps.size = a0.tmps.size → (∀ t, freeB l t = true → a.tmps[t]? = a0.tmps[t]?) → (∀ j o, l[j]? = some o → ∃ v, (∀ t, o.dst = some t → a.tmps[t]? = some v) ∧ R j v w) → Q .normal a w) :
    (Code.region id l.toArray true).wp P Q a0 w := by
  refine wp_region_any hm ?_
  refine any_of hf hst hob hend _ _ _ _ (by simp) (by
    unfold left
    exact Nat.le_trans List.countP_le_length (by simp)) ⟨hC, rfl, rfl, fun _ _ => rfl, fun j o hj hl => ?_⟩
  exfalso
  rw [Array.getD_eq_getD_getElem?, Array.getElem?_replicate] at hl
  split at hl <;> cases hl

/-! ### Single operations -/
theorem wanted_of {ops : Array Oper} {o : Oper} {a : Act} {j t : Nat} {b : Bool} (hg : o.guard = some (j, b)) (ht : (ops[j]?).bind (·.dst) = some t) (h : a.tmps[t]? = some (.bool b)) : Region.wanted o (yielded ops a.tmps) = true := by
  simp [Region.wanted, hg, yielded, ht, h]
theorem op_of {ops : Array Oper} {i : Nat} {o : Oper} {a : Act} {w : World} {K : Act → World → Prop} (ho : ops[i]? = some o) (hw : Region.wanted o (yielded ops a.tmps) = true) (h : o.wp P a w K Q) : wpOp P ops Q i K a w := by
  unfold wpOp
  rw [ho]
  simp only [hw, if_true]
  exact .inl h
theorem eval_tmp {a : Act} {t : Nat} {v : Value} (h : a.tmps[t]? = some v) : a.eval (.tmp t) = v := by
  simp [Act.eval, Array.getD_eq_getD_getElem?, h]
theorem getD_tmp {a : Act} {t : Nat} {v : Value} (h : a.tmps[t]? = some v) : a.tmps.getD t undef = v := by
  simp [Array.getD_eq_getD_getElem?, h]
theorem wp_call {o : Oper} {a : Act} {w : World} {K : Act → World → Prop} {f : FuncId} {args : Array Operand} {ats : Array TypeId} {vs : Array Value} (hop : o.op = .call { callee := .value (.func f), args := args, argTypes := ats }) (hE : ∀ args w, (callFunc f args).run P w = .ok (.enter f args) w) (hv : args.map a.eval = vs)
    (h : Calls P f vs w fun e w' => ∃ v, e = .returned v ∧ K (a.put o.dst v) w') : o.wp P a w K Q := by
  have e : execOp a.eval o = callFunc f (#[] ++ args.map a.eval ++ #[]) := by
    cases o
    cases hop
    rfl
  unfold Oper.wp
  rw [e, hE, hv]
  simp only [Array.empty_append, Array.append_empty]
  exact h.mono fun e w' ⟨v, he, hk⟩ => by subst he; exact hk
theorem wp_move {o : Oper} {a : Act} {w : World} {K : Act → World → Prop} {x : Operand} {v : Value} (hop : o.op = .move x) (hx : a.eval x = v) (h : K (a.put o.dst v) w) : o.wp P a w K Q := by
  unfold Oper.wp
  rw [BigFrame.run_move x hop, hx]
  exact h
theorem wp_assign {o : Oper} {a : Act} {w : World} {K : Act → World → Prop} {x : Operand} {v : Value} (hop : o.op = .assign x) (hx : a.eval x = v) (h : K (a.put o.dst v) w) : o.wp P a w K Q := by
  unfold Oper.wp
  rw [BigFrame.run_assign x hop, hx]
  exact h
end Rel
end Go.Proofs.YtnecfgmbfkocnaeGreat
/-
  THE SAME, UP TO A CUT: the first k operations in whatever order, each by what it hands on; none of the others comes up before all of these have run. No function is named here.
-/
namespace Go.Proofs.YtnecfgmbfkocnaeGreat
open Go.ChangeShapes Go.WideShapes Go.ChangeAt Go.RowKit

namespace Rel
def depsAt (l : List Oper) (i : Nat) : List Nat := ((l[i]?).map deps).getD []
def anc (l : List Oper) : Nat → Nat → List Nat
  | 0, _ => []
  | f + 1, i => (depsAt l i).flatMap fun j => j :: anc l f j
/-- No operation from k on comes up before all ahead of k have run. -/
def cutB (l : List Oper) (k : Nat) : Bool :=
  (List.range l.length).all fun i => decide (i < k) || (depsAt l i).any (fun j => decide (k ≤ j)) || (let a := anc l l.length i; (List.range k).all fun j => a.contains j)
theorem anc_listed {l : List Oper} {listed : Array Bool} (hc : ∀ i, listed.getD i false = true → ∀ j ∈ depsAt l i, listed.getD j false = true) : ∀ (f i : Nat), (∀ j ∈ depsAt l i, listed.getD j false = true) → ∀ j ∈ anc l f i, listed.getD j false = true
  | 0, _, _, _, h => by cases h
  | f + 1, i, hi, j, h => by
    unfold anc at h
    rw [List.mem_flatMap] at h
    obtain ⟨d, hd, h⟩ := h
    rcases List.mem_cons.1 h with rfl | h
    · exact hi _ hd
    · exact anc_listed hc f d (hc d (hi d hd)) j h

variable {P : Program} {l : List Oper} {Q : Exit → Act → World → Prop} {a0 : Act} {Cl : World → Prop} {R : Nat → Value → World → Prop} {St : World → World → Prop} {k : Nat}
/-- Where the cut stands: the first k have run. -/
def atCut (l : List Oper) (k : Nat) : Array Bool := (List.replicate k true ++ List.replicate (l.length - k) false).toArray
theorem any_cut (hf : fitB l a0.tmps.size = true) (hk : k ≤ l.length) (hcut : cutB l k = true) (hst : ∀ i v w w', R i v w → St w w' → R i v w')
    (hob : ∀ i o, i < k → l[i]? = some o → ∀ a w, Cl w → (∀ t, freeB (l.take k) t = true → a.tmps[t]? = a0.tmps[t]?) → (∀ j ∈ deps o, ∀ o', l[j]? = some o' → ∃ v, (∀ t, o'.dst = some t → a.tmps[t]? = some v) ∧ R j v w) →
      ∀ K : Act → World → Prop, (∀ v w', Cl w' → St w w' → R i v w' → K (a.put o.dst v) w') → wpOp P l.toArray Q i K a w)
    (hend : ∀ f a w, Cl w → a.defers = a0.defers → a.tmps.size = a0.tmps.size → (∀ t, freeB (l.take k) t = true → a.tmps[t]? = a0.tmps[t]?) → (∀ j o, j < k → l[j]? = some o → ∃ v, (∀ t, o.dst = some t → a.tmps[t]? = some v) ∧ R j v w) → wpAny P .any l.toArray Q (f + (l.length - k)) (atCut l k) a w) :
    ∀ (fuel : Nat) (listed : Array Bool) (a : Act) (w : World), listed.size = l.length → left l.length listed ≤ fuel → l.length - k ≤ fuel → (∀ i, k ≤ i → i < l.length → listed.getD i true = false) → (∀ i, listed.getD i false = true → ∀ j ∈ depsAt l i, listed.getD j false = true) →
      Cl w → a.defers = a0.defers → a.tmps.size = a0.tmps.size → (∀ t, freeB (l.take k) t = true → a.tmps[t]? = a0.tmps[t]?) → (∀ j o, l[j]? = some o → listed.getD j false = true → ∃ v, (∀ t, o.dst = some t → a.tmps[t]? = some v) ∧ R j v w) →
      (left l.length listed = (l.length - k) + (List.range k).countP fun i => !listed.getD i true) → wpAny P .any l.toArray Q fuel listed a w := by
  have same : ∀ (listed : Array Bool) (j : Nat), j < listed.size → listed.getD j true = listed.getD j false := fun listed j hj => by
    rw [Array.getD_eq_getD_getElem?, Array.getD_eq_getD_getElem?, Array.getElem?_eq_getElem hj]; rfl
  intro fuel
  induction fuel with
  | zero =>
    intro listed a w hs hn hfu hun hcl hC hd hz hr hI hcnt
    -- nothing is left: the cut stands at the end
    have hall : ∀ j, j < k → listed.getD j false = true := fun j hj => by
      cases h : listed.getD j false with
      | true => rfl
      | false =>
        have h1 : listed.getD j true = false := (same listed j (by omega)).trans h
        have := left_set (listed := listed) (show j < l.length by omega) h1
        omega
    have e : listed = atCut l k := by
      apply Array.ext'
      apply List.ext_getElem?
      intro j
      unfold atCut
      by_cases hj : j < k
      · have h := hall j hj
        rw [Array.getD_eq_getD_getElem?] at h
        rw [Array.getElem?_toList, List.getElem?_append_left (by simpa using hj), List.getElem?_replicate, if_pos hj]
        cases hx : listed[j]? with
        | none => rw [hx] at h; cases h
        | some b => rw [hx] at h; simp at h; rw [h]
      · rw [Array.getElem?_toList, Array.getElem?_eq_none (by omega)]
        exact (List.getElem?_eq_none (by simp; omega)).symm
    have h := hend 0 a w hC hd hz hr (fun j o hj ho => hI j o ho (hall j hj))
    rw [← e, show (0 : Nat) + (l.length - k) = 0 by omega] at h
    exact h
  | succ fuel ih =>
    intro listed a w hs hn hfu hun hcl hC hd hz hr hI hcnt
    by_cases hall : ∀ j, j < k → listed.getD j false = true
    · have e : listed = atCut l k := by
        apply Array.ext'
        apply List.ext_getElem?
        intro j
        unfold atCut
        by_cases hj : j < k
        · have h := hall j hj
          rw [Array.getD_eq_getD_getElem?] at h
          rw [Array.getElem?_toList, List.getElem?_append_left (by simpa using hj), List.getElem?_replicate, if_pos hj]
          cases hx : listed[j]? with
          | none => rw [hx] at h; cases h
          | some b => rw [hx] at h; simp at h; rw [h]
        · rw [Array.getElem?_toList, List.getElem?_append_right (by simpa using hj), List.getElem?_replicate]
          simp only [List.length_replicate]
          by_cases hj2 : j < l.length
          · have h := hun j (by omega) hj2
            rw [Array.getD_eq_getD_getElem?] at h
            rw [if_pos (by omega)]
            cases hx : listed[j]? with
            | none => rw [hx] at h; cases h
            | some b => rw [hx] at h; simp at h; rw [h]
          · rw [if_neg (by omega), Array.getElem?_eq_none (by omega)]
      rw [e]
      obtain ⟨f, hf'⟩ : ∃ f, fuel + 1 = f + (l.length - k) := ⟨fuel + 1 - (l.length - k), by omega⟩
      rw [hf']
      exact hend f a w hC hd hz hr (fun j o hj ho => hI j o ho (hall j hj))
    · -- not all have run: whatever comes up stands ahead of the cut
      have hlt : ∀ i ∈ Region.ready .any l.toArray listed, i < k := fun i hi => by
        obtain ⟨o, ho, h1, h2⟩ := ready_mem hi
        rcases Nat.lt_or_ge i k with h | h
        · exact h
        · exfalso
          have hil := (List.getElem?_eq_some_iff.1 ho).1
          have hda : depsAt l i = deps o := by simp [depsAt, ho]
          have hc := List.all_eq_true.1 hcut i (List.mem_range.2 hil)
          simp only [Bool.or_eq_true, decide_eq_true_eq, List.any_eq_true] at hc
          rcases hc with (hc | ⟨j, hj, hjk⟩) | hc
          · omega
          · rw [hda] at hj
            have hl := h2 j hj
            by_cases hjl : j < l.length
            · have := hun j hjk hjl
              rw [same listed j (by omega)] at this
              rw [hl] at this; cases this
            · rw [Array.getD_eq_getD_getElem?, Array.getElem?_eq_none (by omega)] at hl; cases hl
          · refine hall fun j hj => ?_
            have hm := List.all_eq_true.1 hc j (List.mem_range.2 hj)
            exact anc_listed hcl l.length i (by rw [hda]; exact h2) j (by simpa using hm)
      have hne : Region.ready .any l.toArray listed ≠ [] := fun hr0 => by
        refine hall fun j => ?_
        induction j using Nat.strongRecOn with
        | ind j ihj =>
          intro hj
          cases hdj : listed.getD j false with
          | true => rfl
          | false =>
            have ho : l[j]? = some l[j] := List.getElem?_eq_getElem (by omega)
            have := ready_of ho ((same listed j (by omega)).trans hdj) fun q hq => ihj q (fitB_deps hf ho q hq) (by have := fitB_deps hf ho q hq; omega)
            rw [hr0] at this; cases this
      refine ⟨fun h => absurd h hne, fun i hi => ?_⟩
      have hik := hlt i hi
      obtain ⟨o, ho, h1, h2⟩ := ready_mem hi
      have hil := (List.getElem?_eq_some_iff.1 ho).1
      have hls := left_set hil h1
      have hcs : (List.range k).countP (fun j => !(listed.setIfInBounds i true).getD j true) < (List.range k).countP fun j => !listed.getD j true := left_set (n := k) hik h1
      have hget : ∀ j, (listed.setIfInBounds i true).getD j false = true → j ≠ i → listed.getD j false = true := fun j hj hne => by
        rw [Array.getD_eq_getD_getElem?, Array.getElem?_setIfInBounds] at hj
        rw [Array.getD_eq_getD_getElem?]
        simpa [show ¬ i = j from fun h => hne h.symm] using hj
      have hgetT : ∀ j, j ≠ i → (listed.setIfInBounds i true).getD j true = listed.getD j true := fun j hne => by
        rw [Array.getD_eq_getD_getElem?, Array.getElem?_setIfInBounds, Array.getD_eq_getD_getElem?]
        simp [show ¬ i = j from fun h => hne h.symm]
      have hmono : ∀ j, listed.getD j false = true → (listed.setIfInBounds i true).getD j false = true := fun j hj => by
        rw [Array.getD_eq_getD_getElem?, Array.getElem?_setIfInBounds]
        rw [Array.getD_eq_getD_getElem?] at hj
        by_cases e : i = j
        · subst e; simp [show i < listed.size by omega]
        · simpa [e] using hj
      have hsplit : ∀ L : Array Bool, (∀ j, k ≤ j → j < l.length → L.getD j true = false) → left l.length L = (l.length - k) + (List.range k).countP fun j => !L.getD j true := fun L hL => by
        unfold left
        have e : List.range l.length = List.range k ++ (List.range (l.length - k)).map (k + ·) := by
          rw [← List.range_add]; congr 1; omega
        rw [e, List.countP_append]
        have : ((List.range (l.length - k)).map (k + ·)).countP (fun j => !L.getD j true) = l.length - k := by
          have e2 := List.countP_eq_length (p := fun j => !L.getD j true) (l := (List.range (l.length - k)).map (k + ·))
          rw [e2.2 ?_]
          · simp
          · intro x hx
            simp only [List.mem_map, List.mem_range] at hx
            obtain ⟨y, hy, rfl⟩ := hx
            simp [hL (k + y) (by omega) (by omega)]
        omega
      have hun' : ∀ j, k ≤ j → j < l.length → (listed.setIfInBounds i true).getD j true = false := fun j h3 h4 => by rw [hgetT j (by omega)]; exact hun j h3 h4
      refine hob i o hik ho a w hC hr (fun j hj o' ho' => hI j o' ho' (h2 j hj)) _ fun v w' hc hB hv => ?_
      obtain ⟨p1, p2, p3, p4⟩ := put_tmps a o.dst v
      refine ih _ _ _ (by simpa using hs) (by omega) ?_ hun' (fun j hj d hd' => ?_) hc (p1.trans hd) (p2.trans hz) (fun t ht => ?_) (fun j o' hj hl => ?_) (hsplit _ hun')
      · have := hsplit _ hun'; omega
      · by_cases e : j = i
        · subst e
          have hda : depsAt l j = deps o := by simp [depsAt, ho]
          rw [hda] at hd'
          exact hmono d (h2 d hd')
        · exact hmono d (hcl j (hget j hj e) d hd')
      · have hm : o ∈ l.take k := List.mem_of_getElem? (by rw [List.getElem?_take_of_lt hik]; exact ho)
        exact (p3 t (freeB_spec ht hm)).trans (hr t ht)
      · by_cases e : j = i
        · subst e
          rw [ho] at hj
          cases hj
          exact ⟨v, fun t ht => p4 t ht (by have := (fitB_dst hf ho ht).1; rw [hz]; exact this), hv⟩
        · obtain ⟨u, hu, hr'⟩ := hI j o' hj (hget j hl e)
          refine ⟨u, fun t ht => (p3 t fun hd => ?_).trans (hu t ht), hst j u w w' hr' hB⟩
          exact (fitB_dst hf ho hd).2 j o' hj e ht
theorem wp_region_cut {id : Nat} {w : World} (k : Nat) (Cl : World → Prop) (St : World → World → Prop) (R : Nat → Value → World → Prop) (hm : P.follows .mixedOrders = true) (hf : fitB l a0.tmps.size = true) (hk : k ≤ l.length) (hcut : cutB l k = true) (hst : ∀ i v w w', R i v w → St w w' → R i v w') (hC : Cl w.drew)
    (hob : ∀ i o, i < k → l[i]? = some o → ∀ a w, Cl w → (∀ t, freeB (l.take k) t = true → a.tmps[t]? = a0.tmps[t]?) → (∀ j ∈ deps o, ∀ o', l[j]? = some o' → ∃ v, (∀ t, o'.dst = some t → a.tmps[t]? = some v) ∧ R j v w) →
      ∀ K : Act → World → Prop, (∀ v w', Cl w' → St w w' → R i v w' → K (a.put o.dst v) w') → wpOp P l.toArray Q i K a w)
    (hend : ∀ f a w, Cl w → a.defers = a0.defers → a.tmps.size = a0.tmps.size → (∀ t, freeB (l.take k) t = true → a.tmps[t]? = a0.tmps[t]?) → (∀ j o, j < k → l[j]? = some o → ∃ v, (∀ t, o.dst = some t → a.tmps[t]? = some v) ∧ R j v w) → wpAny P .any l.toArray Q (f + (l.length - k)) (atCut l k) a w) :
    (Code.region id l.toArray true).wp P Q a0 w := by
  refine wp_region_any hm ?_
  have h0 : ∀ i, (Array.replicate l.length false).getD i false = false := fun i => by
    rw [Array.getD_eq_getD_getElem?, Array.getElem?_replicate]; split <;> rfl
  have h1 : ∀ i, i < l.length → (Array.replicate l.length false).getD i true = false := fun i hi => by
    rw [Array.getD_eq_getD_getElem?, Array.getElem?_replicate, if_pos hi]; rfl
  have hl : left l.length (Array.replicate l.length false) = l.length := by
    unfold left
    rw [List.countP_eq_length.2 fun i hi => by rw [h1 i (List.mem_range.1 hi)]; rfl]
    simp
  have hk2 : (List.range k).countP (fun i => !(Array.replicate l.length false).getD i true) = k := by
    rw [List.countP_eq_length.2 fun i hi => by rw [h1 i (by have := List.mem_range.1 hi; omega)]; rfl]
    simp
  have h := any_cut hf hk hcut hst hob hend l.length (Array.replicate l.length false) a0 w.drew (by simp) (by omega) (by omega) (fun i _ h => h1 i h) (fun i h => by rw [h0] at h; cases h) hC rfl rfl (fun _ _ => rfl) (fun j o _ h => by rw [h0] at h; cases h) (by omega)
  simpa using h
end Rel
end Go.Proofs.YtnecfgmbfkocnaeGreat
