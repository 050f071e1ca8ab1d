/-
  OPERATIONS IN ROWS: calls among them, and the conditions under which they run. No program is named here.
-/
import Derived.Test.YtnmjhbnadfjapaaXHeavyB
import Derived.Tactics
import Derived.Orders
import Derived.OrdersIn
import Derived.TacticsIn
import Derived.LoopNIn
import Derived.RangeFuncLeaves
import Derived.RangeFuncRecord
namespace GoX
open Go

/-- The fence without a bar, for frames of whatever make: those of functions, and of a loop's rounds. -/
def FR (R : Option Nat) : Fence := { Fence.wide with round := R }
/-- What an operation must do, where it may be a round's call. -/
def can (P : Program) (o : Oper) (a : Act) (w : World) (next : Act → World → Prop) (Q : Exit → Act → World → Prop) : Prop := o.uponIn Fence.wide 0 P a next Q ((execOp a.eval o).run P w)
theorem rows_in {P : Program} {row : String} {args : Array Value} {w : World} {R : Value → World → Prop} (h : Rows P row args w R) : RowsIn Fence.wide 0 P row args w R := fun c cs _ =>
  let ⟨v, w', r, s⟩ := h c cs
  ⟨v, w', r, stepsIn_wide.2 s⟩
theorem can_of_wp {P : Program} {o : Oper} {a : Act} {w : World} {next : Act → World → Prop} {Q : Exit → Act → World → Prop} (h : o.wp P a w next Q) : can P o a w next Q := by
  unfold Oper.wp at h
  unfold can
  generalize (execOp a.eval o).run P w = r at h ⊢
  cases r with
  | ok x w' =>
    cases x with
    | value v => exact h
    | skip => exact h
    | defer d => exact h
    | enter f args => exact ⟨fun hd => (by cases hd), callsIn_wide.2 h⟩
    | row row args => exact ⟨fun hd => (by cases hd), rows_in h⟩
    | _ => exact h.elim
  | halt x w' => cases x <;> first | exact h | exact h.elim
theorem can_in {P : Program} {o : Oper} {a : Act} {w : World} {next : Act → World → Prop} {Q : Exit → Act → World → Prop} (R : Option Nat) (hR : R = none ∨ ∀ c, o.op ≠ .defer c) (h : can P o a w next Q) : o.wpIn (FR R) 0 P a w next Q := by
  refine ⟨fun _ _ => trivial, ?_⟩
  have e : (o.semAt (FR R).round a.eval) = execOp a.eval o := by
    rcases hR with rfl | hR
    · rfl
    · exact Oper.semAt_eq _ _ _ hR
  rw [e]
  unfold can at h
  generalize (execOp a.eval o).run P w = r at h ⊢
  cases r with
  | ok x w' => cases x <;> exact h
  | halt x w' => cases x <;> exact h
/-- What is asked where a round ends. -/
def upR (o : Oper) (a : Act) (next : Act → World → Prop) (Q : Exit → Act → World → Prop) : Ending → World → Prop
  | .returned v, w => next (a.put o.dst v) w
  | .panicked chain, w => Q (.panic chain) a w
  | .outgrown, _ => LetsOut Q
theorem can_round {P : Program} {o : Oper} {a : Act} {w w' : World} {next : Act → World → Prop} {Q : Exit → Act → World → Prop} {l : Nat} {f : FuncId} {tmps : Array Value} {x y : Code}
    (hrun : (execOp a.eval o).run P w = .ok (.round l f tmps x y) w') (h : RoundIn Fence.wide 0 P l f tmps x y w' (upR o a next Q)) : can P o a w next Q := by
  unfold can
  rw [hrun, Oper.uponIn_round]
  exact ⟨fun hd => (by cases hd), RoundIn.mono h fun e w'' he => by cases e <;> exact he⟩
theorem can_mono {P : Program} {o : Oper} {a : Act} {w : World} {next next' : Act → World → Prop} {Q Q' : Exit → Act → World → Prop} (h : can P o a w next Q) (hn : ∀ a w, next a w → next' a w)
    (hQ : ∀ c a w, Q (.panic c) a w → Q' (.panic c) a w) (hL : LetsOut Q → LetsOut Q') : can P o a w next' Q' := by
  unfold can at h ⊢
  generalize (execOp a.eval o).run P w = r at h ⊢
  cases r with
  | ok x w' =>
    cases x with
    | value v => exact hn _ _ h
    | skip => exact hn _ _ h
    | defer d => exact hn _ _ h
    | enter f args => exact ⟨h.1, CallsIn.mono h.2 fun e w'' he => by cases e <;> first | exact hn _ _ he | exact hQ _ _ _ he | exact hL he⟩
    | row row args => exact ⟨h.1, RowsIn.mono h.2 fun _ _ he => hn _ _ he⟩
    | round l f tmps x y => exact ⟨h.1, RoundIn.mono h.2 fun e w'' he => by cases e <;> first | exact hn _ _ he | exact hQ _ _ _ he | exact hL he⟩
    | _ => exact h
  | halt x w' => cases x <;> first | exact hQ _ _ _ h | exact h

/-- What may come out of an operation: all of it. -/
def SimP (K : Tab) (T : AT) (G : Nat → Option Blk) (n : Nat) (op : Op) (O : AV → AH → Prop) : Prop :=
  (∃ v H', O v H') ∧ (∀ v H', O v H' → n ≤ H'.next) ∧ ∀ (φ : Phi) (a : Act) (w : World), OR K.ng φ T a op.operands.toList → Glob K.ng φ → WR φ G w →
    (∀ b, n ≤ b → (∃ v H', O v H' ∧ b < H'.next) → φ b = none) → ∀ o : Oper, o.op = op → ∀ (next : Act → World → Prop) (Q : Exit → Act → World → Prop),
    (∀ v H' ψ x w', O v H' → Goes φ G n w ψ H'.get H'.next w' → conc ψ v = some x → next (a.put o.dst x) w') → can K.P o a w next Q

theorem SimO.all {K : Tab} {T : AT} {G : Nat → Option Blk} {n : Nat} {op : Op} {O : AV → AH → Prop} (h : SimO K T G n op O) : SimP K T G n op O :=
  ⟨h.1, h.2.1, fun φ a w hor hg hw hfr o ho next Q hn => by
    obtain ⟨v, H', ψ, x, w', h1, h2, h3, h4⟩ := h.2.2 φ a w hor hg hw hfr
    exact can_of_wp (h4 o ho next Q (hn v H' ψ x w' h1 h2 h3))⟩

def One {α β : Type} (O : α → β → Prop) : Prop := ∃ v H, ∀ u I, O u I → u = v ∧ I = H

def CH.Fine (K : Tab) (det : Bool) (op : Op) (c : CH) : Prop := ∀ T H k, c.go T H k = true →
  ∃ O : AV → AH → Prop, (∀ v H', O v H' → k v H' = true) ∧ SimP K T H.get H.next op O ∧ (det = true → One O)
theorem CH.All.fine {K : Tab} {det : Bool} {op : Op} {c : CH} (h : CH.All K det op c) : CH.Fine K det op c := fun T H k hk => by
  obtain ⟨O, h1, h2, h3⟩ := h T H k hk
  cases det with
  | false => exact ⟨O, h1, h2.all, fun e => by cases e⟩
  | true =>
    obtain ⟨v, H', hs, hv⟩ := h3 rfl
    exact ⟨fun u I => u = v ∧ I = H', fun u I e => by rw [e.1, e.2]; exact hv, hs.some.all, fun _ => ⟨v, H', fun _ _ e => e⟩⟩

/-! ### Functions -/
/-- A function, called. -/
structure CF where
  go : List AV → AH → (AV → AH → Bool) → Bool
def CF.none : CF := ⟨fun _ _ _ => false⟩

/-- Whether it is a round of a loop over a function that is called, and which. -/
def isMark : List AV → Bool
  | .mark _ :: _ => true
  | _ => false
/-- A call of a function, or a round. -/
def Runs (P : Program) (f : FuncId) (args : List AV) (φ : Phi) (xs : List Value) (w : World) (R : Ending → World → Prop) : Prop :=
  match args with
  | .mark b :: _ => ∀ L, φ b = some L → ∃ fn tmps x y, (Instr.yield L.b xs.tail.toArray).run P w = .ok (.round L.b fn tmps x y) w ∧ RoundIn Fence.wide 0 P L.b fn tmps x y w R
  | _ => Calls P f xs.toArray w R
theorem Runs.calls {P : Program} {f : FuncId} {args : List AV} {φ : Phi} {xs : List Value} {w : World} {R : Ending → World → Prop} (hm : isMark args = false) : Runs P f args φ xs w R ↔ Calls P f xs.toArray w R := by
  unfold Runs
  split
  · cases hm
  · exact Iff.rfl

def SimF (K : Tab) (f : FuncId) (args : List AV) (G : Nat → Option Blk) (n : Nat) (O : AV → AH → Prop) : Prop :=
  (∃ v H', O v H') ∧ (∀ v H', O v H' → n ≤ H'.next) ∧ ∀ (φ : Phi) (xs : List Value) (w : World), concs φ args = some xs → Glob K.ng φ → WR φ G w →
    (∀ b, n ≤ b → (∃ v H', O v H' ∧ b < H'.next) → φ b = none) → ∀ R : Ending → World → Prop,
    (∀ v H' ψ x w', O v H' → Goes φ G n w ψ H'.get H'.next w' → conc ψ v = some x → R (.returned x) w') → Runs K.P f args φ xs w R

/-- Whose body is told, and who is no counter of goroutines. -/
structure Entered (K : Tab) (f : FuncId) : Prop where
  enter : ∀ (args : Array Value) (w : World), (callFunc f args).run K.P w = .ok (.enter f args) w

def CF.Good (K : Tab) (det : Bool) (f : FuncId) (c : CF) : Prop := ∀ args H k, c.go args H k = true →
  (isMark args = false → Entered K f) ∧ ∃ O : AV → AH → Prop, (∀ v H', O v H' → k v H' = true) ∧ SimF K f args H.get H.next O ∧ (det = true → One O)
theorem CF.none_good (K : Tab) (det : Bool) (f : FuncId) : CF.Good K det f CF.none := fun _ _ _ h => by cases h

/-- A call of a function's value; of a loop's body, if it is that. -/
noncomputable def hCall (K : Tab) (call : FuncId → CF) (c : Call) : CH :=
  match c.callee with
  | .value (.func f) => ⟨fun T H k => (ces K.ng c.args.toList).go T fun as => cond (isMark as) false ((call f).go as H k)⟩
  | .value x => ⟨fun T H k => (ce K.ng x).go T fun v => match v with
    | .fn (.func f) first captured => (ces K.ng c.args.toList).go T fun as => appK as captured fun as => appK first as fun as => cond (isMark as) false ((call f).go as H k)
    | .yld b => (ces K.ng c.args.toList).go T fun as => (call 0).go (.mark b :: as) H k
    | _ => false⟩
  | _ => CH.none

theorem cond_false_of {a b : Bool} (h : cond a false b = true) : a = false ∧ b = true := by cases a <;> simp_all

theorem hCall_good {K : Tab} {det : Bool} {call : FuncId → CF} (hf : ∀ f, (call f).Good K det f) (c : Call) : CH.Fine K det (.call c) (hCall K call c) := fun T H k h => by
  have hm : ∀ x, c.callee = .value x → ∀ y, y = x ∨ y ∈ c.args.toList → y ∈ (Op.call c).operands.toList := fun x hc y hy => by
    simp only [Op.operands, Call.operands, hc]
    rcases hy with rfl | hy
    · simp
    · simp; exact .inr (by simpa using hy)
  have key : ∀ (x : Operand) (f : FuncId) (first captured as : List AV), c.callee = .value x → ev K.ng T x = some (.fn (.func f) first captured) → evs K.ng T c.args.toList = some as →
      isMark (first ++ (as ++ captured)) = false → (call f).go (first ++ (as ++ captured)) H k = true → ∃ O : AV → AH → Prop, (∀ v H', O v H' → k v H' = true) ∧ SimP K T H.get H.next (.call c) O ∧ (det = true → One O) := by
    intro x f first captured as hc hx has hnm hgo
    obtain ⟨hen, O, h1, h2, h3⟩ := hf f _ H k hgo
    refine ⟨O, h1, ⟨h2.1, h2.2.1, fun φ a w hor hg hw hfr o ho next Q hn => ?_⟩, h3⟩
    have hm := hm x hc
    obtain ⟨fs, cs, h4, h5, h6⟩ := conc_fn (hor x (hm x (.inl rfl)) _ hx)
    have h7 := evs_conc (fun y hy => hor y (hm y (.inr hy))) has
    have h8 := h2.2.2 φ _ w (concs_append h4 (concs_append h7 h5)) hg hw hfr
    have hrun : (execOp a.eval o).run K.P w = .ok (.enter f (fs ++ (c.args.toList.map a.eval ++ cs)).toArray) w := by
      simp only [execOp, ho, resolve, hc, h6, Deferred.ofValue, Sem.run_bind, Sem.run_pure, Result.andThen_ok, invoke]
      have harr : fs.toArray ++ c.args.map a.eval ++ cs.toArray = (fs ++ (c.args.toList.map a.eval ++ cs)).toArray := by
        apply Array.ext'; simp
      rw [harr]
      exact (hen hnm).enter _ w
    refine can_of_wp ?_
    unfold Oper.wp
    rw [hrun, Oper.upon_enter]
    exact (Runs.calls hnm).1 (h8 _ fun v H' ψ y w' hO hgo' hy => hn v H' ψ y w' hO hgo' hy)
  unfold hCall at h
  split at h
  · rename_i f hc
    obtain ⟨as, has, hgo⟩ := ces_ok h
    obtain ⟨hnm, hgo⟩ := cond_false_of hgo
    exact key _ f [] [] as hc rfl has (by simpa using hnm) (by simpa using hgo)
  · rename_i x hx hc
    obtain ⟨v, hv, h⟩ := ce_ok h
    match v, hv, h with
    | .fn (.func f) first captured, hv, h =>
      obtain ⟨as, has, hgo⟩ := ces_ok h
      rw [appK_eq, appK_eq] at hgo
      obtain ⟨hnm, hgo⟩ := cond_false_of hgo
      exact key _ f first captured as hc hv has hnm hgo
    | .yld b, hv, h =>
      obtain ⟨as, has, hgo⟩ := ces_ok h
      obtain ⟨_, O, h1, h2, h3⟩ := hf 0 _ H k hgo
      refine ⟨O, h1, ⟨h2.1, h2.2.1, fun φ a w hor hg hw hfr o ho next Q hn => ?_⟩, h3⟩
      have hm := hm x hc
      obtain ⟨L, hL, h6⟩ := conc_yld (hor x (hm x (.inl rfl)) _ hv)
      have h7 := evs_conc (fun y hy => hor y (hm y (.inr hy))) has
      have h8 := h2.2.2 φ _ w (concs_cons_mk (v := .mark b) rfl h7) hg hw hfr
      obtain ⟨fn, tmps, x', y', hy, hR⟩ := h8 (upR o a next Q) (fun v H' ψ y w' hO hgo' hy => hn v H' ψ y w' hO hgo' hy) L hL
      have hrun : (execOp a.eval o).run K.P w = .ok (.round L.b fn tmps x' y') w := by
        simp only [execOp, ho, resolve, hc, h6, Deferred.ofValue, Sem.run_bind, Sem.run_pure, Result.andThen_ok, invoke]
        have harr : #[] ++ c.args.map a.eval = ((.tuple #[] :: c.args.toList.map a.eval : List Value).tail).toArray := by
          apply Array.ext'; simp
        rw [harr]
        exact hy
      exact can_round hrun hR
  · cases h

/-- A call through an interface: the dynamic type's own method, on a pointer. -/
noncomputable def hInvoke (K : Tab) (call : FuncId → CF) (c : Call) : CH :=
  match c.callee with
  | .invoke recv name => ⟨fun T H k => (ce K.ng recv).go T fun v => match v with
    | .ifc t u => match K.und t with
      | some (.pointer _) => match K.inf t with
        | some i => match i.methods.find? (·.name == name) with
          | some m => match m.func with
            | some (f, true) => cond m.path.isEmpty ((ces K.ng c.args.toList).go T fun as => cond (isMark (u :: as)) false ((call f).go (u :: as) H k)) false
            | _ => false
          | none => false
        | none => false
      | _ => false
    | _ => false⟩
  | _ => CH.none

theorem run_method {P : Program} {t e : TypeId} {i : TypeInfo} {m : Method} {f : FuncId} {name : String} {v : Value} {w : World} (hu : P.underlying t = some (.pointer e)) (hi : P.info? t = some i) (hm : i.methods.find? (·.name == name) = some m)
    (hp : m.path.isEmpty = true) (hf : m.func = some (f, true)) (n : Nat) : (Go.method (n + 1) t v name).run P w = .ok (f, v) w := by
  have hp' : m.path.toList = [] := by
    have : m.path = #[] := by simpa using hp
    rw [this]
  unfold Go.method
  have h1 : (typeInfo t).run P w = .ok i w := by simp [typeInfo, hi]
  have h2 : (underlying t).run P w = .ok (.pointer e) w := run_underlying hu w
  simp only [Sem.run_bind, h1, Result.andThen_ok, hm, hp', Go.follow, Sem.run_pure, hf]
  simp only [Go.receiverAt, Sem.run_bind, h2, Result.andThen_ok, Go.Place.get, Sem.run_pure]

theorem hInvoke_good {K : Tab} (hK : K.Ok) {det : Bool} {call : FuncId → CF} (hf : ∀ f, (call f).Good K det f) (c : Call) : CH.Fine K det (.call c) (hInvoke K call c) := fun T H k h => by
  unfold hInvoke at h
  split at h
  · rename_i recv name hc
    obtain ⟨v, hv, h⟩ := ce_ok h
    match v, hv, h with
    | .ifc t u, hv, h =>
      simp only at h
      split at h
      · rename_i e hu
        split at h
        · rename_i i hi
          split at h
          · rename_i m hm
            split at h
            · rename_i f hfn
              obtain ⟨hp, h⟩ := cond_true_of h
              obtain ⟨as, has, h⟩ := ces_ok h
              obtain ⟨hnm, h⟩ := cond_false_of h
              obtain ⟨hen, O, h1, h2, h3⟩ := hf f _ H k h
              refine ⟨O, h1, ⟨h2.1, h2.2.1, fun φ a w hor hg hw hfr o ho next Q hn => ?_⟩, h3⟩
              have hmem : ∀ y, y = recv ∨ y ∈ c.args.toList → y ∈ (Op.call c).operands.toList := fun y hy => by
                simp only [Op.operands, Call.operands, hc]
                rcases hy with rfl | hy
                · simp
                · simp; exact .inr (by simpa using hy)
              obtain ⟨x, hx, h6⟩ := conc_ifc (hor recv (hmem recv (.inl rfl)) _ hv)
              have h7 := evs_conc (fun y hy => hor y (hmem y (.inr hy))) has
              have h8 := h2.2.2 φ _ w (concs_cons_mk hx h7) hg hw hfr
              have hrun : (execOp a.eval o).run K.P w = .ok (.enter f (x :: c.args.toList.map a.eval).toArray) w := by
                have hmeth : ∃ n, K.P.types.size + Made.depth = n + 1 := ⟨K.P.types.size + Made.depth - 1, by unfold Made.depth; omega⟩
                obtain ⟨n, hn⟩ := hmeth
                have hme := run_method (P := K.P) (v := x) (w := w) (hK.und hu) (hK.inf hi) hm hp hfn n
                have harr : #[x] ++ (#[Value.iface t x] ++ c.args.map a.eval).extract 1 (#[Value.iface t x] ++ c.args.map a.eval).size = (x :: c.args.toList.map a.eval).toArray := by
                  apply Array.ext'
                  simp
                  exact List.take_of_length_le (by simp)
                have h0 : (#[Value.iface t x] ++ c.args.map a.eval)[0]? = some (Value.iface t x) := by
                  rw [Array.getElem?_append_left (by simp)]; rfl
                simp only [execOp, ho, resolve, hc, h6, Sem.run_bind, Sem.run_pure, Result.andThen_ok, invoke, h0, callMethod, run_program, hn, hme]
                rw [harr]
                exact (hen hnm).enter _ w
              refine can_of_wp ?_
              unfold Oper.wp
              rw [hrun, Oper.upon_enter]
              exact (Runs.calls hnm).1 (h8 _ fun v H' ψ y w' hO hgo' hy => hn v H' ψ y w' hO hgo' hy)
            · cases h
          · cases h
        · cases h
      · cases h
  · cases h

/-- Any operation. -/
noncomputable def cp (K : Tab) (det : Bool) (call : FuncId → CF) (op : Op) : CH :=
  match op with
  | .call c => match c.callee with
    | .value _ => hCall K call c
    | .invoke _ _ => hInvoke K call c
    | _ => ch K det op
  | _ => ch K det op
theorem cp_fine {K : Tab} (hK : K.Ok) {det : Bool} {call : FuncId → CF} (hf : ∀ f, (call f).Good K det f) (op : Op) : CH.Fine K det op (cp K det call op) := by
  have h := (ch_all hK det op).fine
  unfold cp
  split
  · rename_i c
    split
    · exact hCall_good hf c
    · exact hInvoke_good hK hf c
    · exact h
  · exact h

/-! ### An operation in its row -/
structure CS where
  go : AT → AH → (AT → AH → Bool) → Bool

def dstOf (ops : List Oper) (j : Nat) : Option Tmp :=
  match ops[j]? with
  | some o => o.dst
  | none => none
def unitA : AV := .tup []

noncomputable def dstOk (n : Nat) (d : Option Tmp) : Bool := match d with
  | some d => Nat.blt d n
  | none => true
noncomputable def cRun (c : CH) (d : Option Tmp) : CS := match d with
  | none => ⟨fun T H k => c.go T H fun _ H => k T H⟩
  | some d => ⟨fun T H k => c.go T H fun v H => Trie.putK (bits d) T (some v) fun T => k T H⟩
noncomputable def cSkip (d : Option Tmp) : CS := match d with
  | none => ⟨fun T H k => k T H⟩
  | some d => ⟨fun T H k => Trie.putK (bits d) T (some unitA) fun T => k T H⟩
noncomputable def cGuard (all : List Oper) (g : Option (Nat × Bool)) (yes no : CS) : CS := match g with
  | none => yes
  | some (j, want) => match dstOf all j with
    | none => ⟨fun _ _ _ => false⟩
    | some d => ⟨fun T H k => Trie.getK (bits d) T false fun v => match v with
      | .bool b => Bool.casesOn b (Bool.casesOn want (yes.go T H k) (no.go T H k)) (Bool.casesOn want (no.go T H k) (yes.go T H k))
      | .tup [] => no.go T H k
      | _ => false⟩
noncomputable def cOper (K : Tab) (det : Bool) (n : Nat) (call : FuncId → CF) (all : List Oper) (o : Oper) : CS := match dstOk n o.dst with
  | true => cGuard all o.guard (cRun (cp K det call o.op) o.dst) (cSkip o.dst)
  | false => ⟨fun _ _ _ => false⟩

/-- What a step does that hands on or leaves. -/
def SimS (K : Tab) (n : Nat) (V : (Act → World → Prop) → (Exit → Act → World → Prop) → Act → World → Prop) (T : AT) (G : Nat → Option Blk) (nx : Nat) (O : AT → AH → Prop) : Prop :=
  (∃ T' H', O T' H') ∧ (∀ T' H', O T' H' → nx ≤ H'.next) ∧ ∀ (φ : Phi) (a : Act) (w : World), TR φ T n a → Glob K.ng φ → WR φ G w →
    (∀ b, nx ≤ b → (∃ T' H', O T' H' ∧ b < H'.next) → φ b = none) → ∀ (next : Act → World → Prop) (Q : Exit → Act → World → Prop),
    (∀ T' H' ψ a' w', O T' H' → Goes φ G nx w ψ H'.get H'.next w' → TR ψ T' n a' → next a' w') → V next Q a w

def CS.Good (K : Tab) (det : Bool) (n : Nat) (V : (Act → World → Prop) → (Exit → Act → World → Prop) → Act → World → Prop) (c : CS) : Prop := ∀ T H k, c.go T H k = true →
  ∃ O : AT → AH → Prop, (∀ T' H', O T' H' → k T' H' = true) ∧ SimS K n V T H.get H.next O ∧ (det = true → One O)

theorem dst_lt {n : Nat} {d : Option Tmp} (h : dstOk n d = true) : ∀ i, d = some i → i < n := fun i hi => by
  subst hi; simpa [dstOk, Nat.blt_eq] using h

theorem cRun_good {K : Tab} {det : Bool} {n : Nat} {o : Oper} {c : CH} (hc : CH.Fine K det o.op c) (hd : ∀ i, o.dst = some i → i < n) :
    CS.Good K det n (fun next Q a w => can K.P o a w next Q) (cRun c o.dst) := fun T H k h => by
  have h' : c.go T H (fun v H => k (putT T o.dst v) H) = true := by
    unfold cRun at h
    cases hdst : o.dst with
    | none => rw [hdst] at h; exact h
    | some d =>
      rw [hdst] at h
      simp only [Trie.putK_eq] at h
      exact h
  obtain ⟨O, h1, h2, h3⟩ := hc T H _ h'
  refine ⟨fun T' H' => ∃ v, O v H' ∧ T' = putT T o.dst v, fun T' H' ⟨v, hv, e⟩ => by rw [e]; exact h1 v H' hv, ⟨?_, fun T' H' ⟨v, hv, _⟩ => h2.2.1 v H' hv, fun φ a w ht hg hw hfr next Q hn => ?_⟩, fun e => ?_⟩
  · obtain ⟨v, H', hv⟩ := h2.1
    exact ⟨_, H', v, hv, rfl⟩
  · refine h2.2.2 φ a w (ht.or hg _) hg hw (fun b hb ⟨v, H', hv, hlt⟩ => hfr b hb ⟨_, H', ⟨v, hv, rfl⟩, hlt⟩) o rfl next Q fun v H' ψ x w' hv hgo hx => ?_
    exact hn _ H' ψ _ w' ⟨v, hv, rfl⟩ hgo ((ht.mono hgo.le).put hd hx)
  · obtain ⟨v, H', hone⟩ := h3 e
    exact ⟨putT T o.dst v, H', fun T' I ⟨u, hu, e⟩ => by obtain ⟨rfl, rfl⟩ := hone u I hu; exact ⟨e, rfl⟩⟩

theorem cSkip_good {K : Tab} (det : Bool) {n : Nat} {d : Option Tmp} (hd : ∀ i, d = some i → i < n) :
    CS.Good K det n (fun next _ a w => next (a.put d undef) w) (cSkip d) := fun T H k h => by
  have h' : k (putT T d unitA) H = true := by
    unfold cSkip at h
    cases hdst : d with
    | none => rw [hdst] at h; exact h
    | some d =>
      rw [hdst] at h
      simp only [Trie.putK_eq] at h
      exact h
  refine ⟨fun T' H' => T' = putT T d unitA ∧ H' = H, fun T' H' e => by rw [e.1, e.2]; exact h', ⟨⟨_, _, rfl, rfl⟩, fun T' H' e => by rw [e.2]; exact Nat.le_refl _, fun φ a w ht hg hw hfr next Q hn => ?_⟩, fun _ => ⟨_, _, fun _ _ e => e⟩⟩
  exact hn _ H φ _ w ⟨rfl, rfl⟩ (Goes.refl hw) (ht.put hd (v := unitA) (x := undef) rfl)

theorem CS.Good.congr {K : Tab} {det : Bool} {n : Nat} {V V' : (Act → World → Prop) → (Exit → Act → World → Prop) → Act → World → Prop} {_c : CS} {T : AT} {H : AH} {k : AT → AH → Bool}
    (hV : ∀ φ a w next Q, TR φ T n a → V next Q a w → V' next Q a w) (h : ∃ O : AT → AH → Prop, (∀ T' H', O T' H' → k T' H' = true) ∧ SimS K n V T H.get H.next O ∧ (det = true → One O)) :
    ∃ O : AT → AH → Prop, (∀ T' H', O T' H' → k T' H' = true) ∧ SimS K n V' T H.get H.next O ∧ (det = true → One O) := by
  obtain ⟨O, h1, h2, h3⟩ := h
  exact ⟨O, h1, ⟨h2.1, h2.2.1, fun φ a w ht hg hw hfr next Q hn => hV φ a w next Q ht (h2.2.2 φ a w ht hg hw hfr next Q hn)⟩, h3⟩

/-- An operation, as its row meets it. -/
def opW (P : Program) (ops : Array Oper) (o : Oper) (next : Act → World → Prop) (Q : Exit → Act → World → Prop) (a : Act) (w : World) : Prop :=
  if Region.wanted o (yielded ops a.tmps) then can P o a w next Q else next (a.put o.dst undef) w

theorem yielded_of {φ : Phi} {T : AT} {n : Nat} {a : Act} (ht : TR φ T n a) {ops : List Oper} {j : Nat} {d : Tmp} (hd : dstOf ops j = some d) :
    (∀ b, T.get d = some (.bool b) → yielded ops.toArray a.tmps j = some b) ∧ (T.get d = some (.tup []) → yielded ops.toArray a.tmps j = none) := by
  have hj : ((ops.toArray[j]?).bind (·.dst)) = some d := by
    unfold dstOf at hd
    cases ho : ops[j]? with
    | none => rw [ho] at hd; cases hd
    | some o => rw [ho] at hd; simp [ho, hd]
  constructor
  · intro b hb
    have := ht.val d _ hb
    simp only [conc] at this
    injection this with this
    unfold yielded
    rw [hj]
    simp only [Option.bind_some]
    cases hx : a.tmps[d]? with
    | none => simp [Array.getD_eq_getD_getElem?, hx, undef] at this
    | some x =>
      simp [Array.getD_eq_getD_getElem?, hx] at this
      rw [← this]
  · intro hb
    have := ht.val d _ hb
    have h0 : conc φ (.tup []) = some (.tuple #[]) := rfl
    rw [h0] at this
    injection this with this
    unfold yielded
    rw [hj]
    simp only [Option.bind_some]
    cases hx : a.tmps[d]? with
    | none => rfl
    | some x =>
      simp [Array.getD_eq_getD_getElem?, hx] at this
      rw [← this]

theorem cOper_good {K : Tab} (hK : K.Ok) {det : Bool} {n : Nat} {call : FuncId → CF} (hf : ∀ f, (call f).Good K det f) (all : List Oper) (o : Oper) :
    CS.Good K det n (opW K.P all.toArray o) (cOper K det n call all o) := fun T H k h => by
  unfold cOper at h
  split at h
  · rename_i hd
    have hd := dst_lt hd
    have hyes := cRun_good (cp_fine hK hf o.op) hd
    have hno := cSkip_good (K := K) det hd
    unfold cGuard at h
    split at h
    · rename_i hg
      refine CS.Good.congr (_c := cRun (cp K det call o.op) o.dst) (fun φ a w next Q ht hh => ?_) (hyes T H k h)
      simp only [opW, Region.wanted, hg, if_true]
      exact hh
    · rename_i j want hg
      split at h
      · cases h
      · rename_i d hdst
        simp only [Trie.getK_eq] at h
        cases hv : T.at' (bits d) with
        | none => rw [hv] at h; cases h
        | some v =>
          rw [hv] at h
          simp only at h
          have hY : ∀ b, v = .bool b → b = want → (cRun (cp K det call o.op) o.dst).go T H k = true → ∃ O : AT → AH → Prop, (∀ T' H', O T' H' → k T' H' = true) ∧ SimS K n (opW K.P all.toArray o) T H.get H.next O ∧ (det = true → One O) := fun b hb hbw h' => by
            subst hb; subst hbw
            refine CS.Good.congr (_c := cRun (cp K det call o.op) o.dst) (fun φ a w next Q ht hh => ?_) (hyes T H k h')
            have := (yielded_of ht hdst).1 _ hv
            simp only [opW, Region.wanted, hg, this, beq_self_eq_true, if_true]
            exact hh
          have hN : ((∃ b, v = .bool b ∧ b ≠ want) ∨ v = .tup []) → (cSkip o.dst).go T H k = true → ∃ O : AT → AH → Prop, (∀ T' H', O T' H' → k T' H' = true) ∧ SimS K n (opW K.P all.toArray o) T H.get H.next O ∧ (det = true → One O) := fun hb h' => by
            refine CS.Good.congr (_c := cSkip o.dst) (fun φ a w next Q ht hh => ?_) (hno T H k h')
            rcases hb with ⟨b, rfl, hbw⟩ | rfl
            · have := (yielded_of ht hdst).1 _ hv
              simp only [opW, Region.wanted, hg, this]
              rw [if_neg (by simpa using hbw)]
              exact hh
            · have := (yielded_of ht hdst).2 hv
              simp only [opW, Region.wanted, hg, this]
              rw [if_neg (by simp)]
              exact hh
          match v, h with
          | .bool true, h =>
            cases want with
            | true => exact hY true rfl rfl h
            | false => exact hN (.inl ⟨true, rfl, by simp⟩) h
          | .bool false, h =>
            cases want with
            | true => exact hN (.inl ⟨false, rfl, by simp⟩) h
            | false => exact hY false rfl rfl h
          | .tup [], h => exact hN (.inr rfl) h
  · cases h

end GoX
