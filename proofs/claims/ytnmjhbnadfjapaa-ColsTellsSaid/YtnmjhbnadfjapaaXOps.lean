/-
  WHAT THE MODEL'S OPERATIONS GIVE THAT CHANGE NO MEMORY, over abstract memory: each as a closure that hands its value on, and what that says of the model. No program is named here.
-/
import Derived.Test.YtnmjhbnadfjapaaXVal
import Derived.Laws.Cells
import GoSem.Dispatch
namespace GoX
open Go

/-- The program's tables, as they are asked; how many variables of packages it has. -/
structure Tab where
  P : Program
  ty : Trie TypeInfo
  fu : Trie Func
  ng : Nat
  eqs : List Nat

structure Tab.Ok (K : Tab) : Prop where
  ty : ∀ t i, K.ty.get t = some i → K.P.info? t = some i
  fu : ∀ f fn, K.fu.get f = some fn → K.P.funcs[f]? = some fn
  eqs : ∀ t ∈ K.eqs, K.P.stoodInHeld t = false ∧ K.P.eqGuardType K.P.depth t = false
  mixed : K.P.follows .mixedOrders = true

noncomputable def Tab.of (P : Program) (ng : Nat) (eqs : List Nat) : Tab :=
  Trie.ofListK P.types.toList 0 .leaf fun ty => Trie.ofListK P.funcs.toList 0 .leaf fun fu => ⟨P, ty, fu, ng, eqs⟩

theorem Tab.of_P (P : Program) (ng : Nat) (eqs : List Nat) : (Tab.of P ng eqs).P = P := by simp [Tab.of, Trie.ofListK_eq]
theorem Tab.of_ng (P : Program) (ng : Nat) (eqs : List Nat) : (Tab.of P ng eqs).ng = ng := by simp [Tab.of, Trie.ofListK_eq]
theorem Tab.of_ok (P : Program) (ng : Nat) (eqs : List Nat) (he : ∀ t ∈ eqs, P.stoodInHeld t = false ∧ P.eqGuardType P.depth t = false) (hm : P.follows .mixedOrders = true) :
    (Tab.of P ng eqs).Ok := by
  constructor
  · intro t i h
    simp only [Tab.of, Trie.ofListK_eq, Trie.get_ofList, Nat.not_lt_zero, if_false, Nat.zero_add, Nat.sub_zero] at h ⊢
    by_cases hl : t < P.types.toList.length
    · rw [if_pos hl] at h
      simp only [Tables.info?]
      rw [if_pos (by simpa using hl)]
      simpa using h
    · rw [if_neg hl, Trie.get_leaf] at h; cases h
  · intro t i h
    simp only [Tab.of, Trie.ofListK_eq, Trie.get_ofList, Nat.not_lt_zero, if_false, Nat.zero_add, Nat.sub_zero] at h ⊢
    by_cases hl : t < P.funcs.toList.length
    · rw [if_pos hl] at h
      simpa using h
    · rw [if_neg hl, Trie.get_leaf] at h; cases h
  · simpa only [Tab.of, Trie.ofListK_eq] using he
  · simpa only [Tab.of, Trie.ofListK_eq] using hm

noncomputable def Tab.inf (K : Tab) (t : Nat) : Option TypeInfo := Trie.getK (bits t) K.ty none some
noncomputable def Tab.fns (K : Tab) (f : Nat) : Option Func := Trie.getK (bits f) K.fu none some
noncomputable def Tab.und (K : Tab) (t : Nat) : Option TypeDesc :=
  match K.inf t with
  | some i => match i.desc with
    | .named _ u => match K.inf u with
      | some j => some j.desc
      | none => none
    | d => some d
  | none => none

theorem Tab.Ok.inf {K : Tab} (h : K.Ok) {t : Nat} {i : TypeInfo} (hi : K.inf t = some i) : K.P.info? t = some i := by
  refine h.ty t i ?_
  simp only [Tab.inf, Trie.getK_eq] at hi
  show K.ty.at' (bits t) = some i
  cases ha : K.ty.at' (bits t) with
  | none => rw [ha] at hi; cases hi
  | some j => rw [ha] at hi; exact hi
theorem Tab.Ok.fns {K : Tab} (h : K.Ok) {f : Nat} {fn : Func} (hi : K.fns f = some fn) : K.P.funcs[f]? = some fn := by
  refine h.fu f fn ?_
  simp only [Tab.fns, Trie.getK_eq] at hi
  show K.fu.at' (bits f) = some fn
  cases ha : K.fu.at' (bits f) with
  | none => rw [ha] at hi; cases hi
  | some j => rw [ha] at hi; exact hi
theorem Tab.Ok.und {K : Tab} (h : K.Ok) {t : Nat} {d : TypeDesc} (hd : K.und t = some d) : K.P.underlying t = some d := by
  unfold Tab.und at hd
  unfold Program.underlying
  cases hi : K.inf t with
  | none => rw [hi] at hd; cases hd
  | some i =>
    rw [hi] at hd
    rw [h.inf hi]
    obtain ⟨desc, str, size, bytes, hp, al, fa, zero, comparable, methods⟩ := i
    cases desc <;> simp only at hd ⊢ <;> try exact hd
    rename_i nm u
    cases hj : K.inf u with
    | none => rw [hj] at hd; cases hd
    | some j => rw [hj] at hd; rw [h.inf hj]; simpa using hd

theorem Tab.Ok.runUnd {K : Tab} (h : K.Ok) {t : Nat} {d : TypeDesc} (hd : K.und t = some d) (w : World) : (underlying t).run K.P w = .ok d w := run_underlying (h.und hd) w
theorem Tab.Ok.runInf {K : Tab} (h : K.Ok) {t : Nat} {i : TypeInfo} (hi : K.inf t = some i) (w : World) : (typeInfo t).run K.P w = .ok i w := by
  simp [typeInfo, h.inf hi]

/-! ### Constants -/
def ofVs (f : Value → Option AV) : List Value → Option (List AV)
  | [] => some []
  | v :: l => match f v with
    | some v => match ofVs f l with
      | some l => some (v :: l)
      | none => none
    | none => none
def ofVn : Nat → Value → Option AV
  | 0, _ => none
  | d + 1, v => match v with
    | .bool b => some (.bool b)
    | .int k n => some (.int k n)
    | .string s => some (.str s.data.toList)
    | .pointer none => some (.ptr none)
    | .slice none n c => some (.sl none n (.exact c))
    | .map none => some (.map none)
    | .nilFunc => some .nilFn
    | .nilIface => some .nilIfc
    | .iface t v => match ofVn d v with
      | some v => some (.ifc t v)
      | none => none
    | .agg cs => match ofVs (ofVn d) cs.toList with
      | some l => some (.agg l)
      | none => none
    | .tuple cs => match ofVs (ofVn d) cs.toList with
      | some l => some (.tup l)
      | none => none
    | .func f a b => match ofVs (ofVn d) a.toList, ofVs (ofVn d) b.toList with
      | some a, some b => some (.fn f a b)
      | _, _ => none
    | _ => none
def ofV (v : Value) : Option AV := ofVn 4 v

theorem conc_ofVs {φ : Phi} {f : Value → Option AV} (hf : ∀ v x, f v = some x → conc φ x = some v) : ∀ (l : List Value) {r}, ofVs f l = some r → concs φ r = some l
  | [], r, h => by cases h; rfl
  | v :: l, r, h => by
    simp only [ofVs] at h
    cases hv : f v with
    | none => rw [hv] at h; cases h
    | some x =>
      cases hl : ofVs f l with
      | none => rw [hv, hl] at h; cases h
      | some y => rw [hv, hl] at h; cases h; exact concs_cons_mk (hf v x hv) (conc_ofVs hf l hl)
theorem conc_ofVn (φ : Phi) : ∀ (d : Nat) (v : Value) (x : AV), ofVn d v = some x → conc φ x = some v := by
  intro d
  induction d with
  | zero => intro v x h; cases h
  | succ d ih =>
    intro v x h
    cases v with
    | bool b => cases h; rfl
    | int k n => cases h; rfl
    | string s => cases h; simp [conc]
    | pointer a => cases a <;> cases h; rfl
    | slice a n c => cases a <;> cases h; rfl
    | map r => cases r <;> cases h; rfl
    | nilFunc => cases h; rfl
    | nilIface => cases h; rfl
    | iface t v =>
      simp only [ofVn] at h
      cases hv : ofVn d v with
      | none => rw [hv] at h; cases h
      | some y => rw [hv] at h; cases h; simp only [conc, ih v y hv]
    | agg cs =>
      simp only [ofVn] at h
      cases hv : ofVs (ofVn d) cs.toList with
      | none => rw [hv] at h; cases h
      | some y => rw [hv] at h; cases h; simp only [conc, conc_ofVs ih _ hv]
    | tuple cs =>
      simp only [ofVn] at h
      cases hv : ofVs (ofVn d) cs.toList with
      | none => rw [hv] at h; cases h
      | some y => rw [hv] at h; cases h; simp only [conc, conc_ofVs ih _ hv]
    | func f a b =>
      simp only [ofVn] at h
      cases ha : ofVs (ofVn d) a.toList with
      | none => rw [ha] at h; cases h
      | some y =>
        cases hb : ofVs (ofVn d) b.toList with
        | none => rw [ha, hb] at h; cases h
        | some z => rw [ha, hb] at h; cases h; simp only [conc, conc_ofVs ih _ ha, conc_ofVs ih _ hb]
    | float k b => cases h
    | complex k a b => cases h
    | chan r => cases h
theorem conc_ofV (φ : Phi) {v : Value} {x : AV} (h : ofV v = some x) : conc φ x = some v := conc_ofVn φ 4 v x h

/-! ### Operands -/
def ev (ng : Nat) (T : AT) : Operand → Option AV
  | .tmp t => T.get t
  | .const v => ofV v
  | .global g => if g < ng then some (.ptr (some (g, 0))) else none
  | .func f => some (.fn (.func f) [] [])

/-- The package's variables lie where the model lays them. -/
def Glob (ng : Nat) (φ : Phi) : Prop := ∀ g, g < ng → φ g = some ⟨g, 0, 0⟩

/-- What the operands of an operation stand for. -/
def OR (ng : Nat) (φ : Phi) (T : AT) (a : Act) (l : List Operand) : Prop := ∀ x ∈ l, ∀ v, ev ng T x = some v → conc φ v = some (a.eval x)

theorem TR.or {ng : Nat} {φ : Phi} {T : AT} {n : Nat} {a : Act} (h : TR φ T n a) (hg : Glob ng φ) (l : List Operand) : OR ng φ T a l := by
  intro x _ v hv
  cases x with
  | tmp t => exact h.val t v hv
  | const c => exact conc_ofV φ hv
  | global g =>
    simp only [ev] at hv
    split at hv
    · rename_i hlt; cases hv; simp only [conc, concP, hg g hlt, Act.eval, Nat.zero_add]
    · cases hv
  | func f => cases hv; rfl

structure CE where
  go : AT → (AV → Bool) → Bool
noncomputable def ce (ng : Nat) (x : Operand) : CE :=
  match x with
  | .tmp t => ⟨fun T k => Trie.getK (bits t) T false k⟩
  | .const v => match ofV v with
    | some a => ⟨fun _ k => k a⟩
    | none => ⟨fun _ _ => false⟩
  | .global g => match Nat.blt g ng with
    | true => ⟨fun _ k => k (.ptr (some (g, 0)))⟩
    | false => ⟨fun _ _ => false⟩
  | .func f => ⟨fun _ k => k (.fn (.func f) [] [])⟩

theorem ce_ok {ng : Nat} {x : Operand} {T : AT} {k : AV → Bool} (h : (ce ng x).go T k = true) : ∃ v, ev ng T x = some v ∧ k v = true := by
  cases x with
  | tmp t =>
    simp only [ce, Trie.getK_eq] at h
    show ∃ v, T.at' (bits t) = some v ∧ _
    cases ha : T.at' (bits t) with
    | none => rw [ha] at h; cases h
    | some v => rw [ha] at h; exact ⟨v, rfl, h⟩
  | const v =>
    simp only [ce] at h
    cases ha : ofV v with
    | none => rw [ha] at h; cases h
    | some a => rw [ha] at h; exact ⟨a, ha, h⟩
  | global g =>
    simp only [ce] at h
    cases ha : Nat.blt g ng with
    | false => rw [ha] at h; cases h
    | true => rw [ha] at h; exact ⟨_, by simp [ev, show g < ng by simpa [Nat.blt_eq] using ha], h⟩
  | func f => exact ⟨_, rfl, h⟩

def evs (ng : Nat) (T : AT) : List Operand → Option (List AV)
  | [] => some []
  | o :: l => match ev ng T o, evs ng T l with
    | some v, some l => some (v :: l)
    | _, _ => none

structure CEs where
  go : AT → (List AV → Bool) → Bool
noncomputable def ces (ng : Nat) : List Operand → CEs
  | [] => ⟨fun _ k => k []⟩
  | o :: l => ⟨fun T k => (ce ng o).go T fun v => (ces ng l).go T fun vs => k (v :: vs)⟩
theorem ces_ok {ng : Nat} : ∀ {l : List Operand} {T : AT} {k : List AV → Bool}, (ces ng l).go T k = true → ∃ vs, evs ng T l = some vs ∧ k vs = true
  | [], T, k, h => ⟨[], rfl, h⟩
  | o :: l, T, k, h => by
    obtain ⟨v, hv, h⟩ := ce_ok (show (ce ng o).go T _ = true from h)
    obtain ⟨vs, hvs, h⟩ := ces_ok h
    exact ⟨v :: vs, by simp only [evs, hv, hvs], h⟩
theorem evs_conc {ng : Nat} {φ : Phi} {T : AT} {a : Act} : ∀ {l : List Operand} {vs : List AV}, OR ng φ T a l → evs ng T l = some vs → concs φ vs = some (l.map a.eval)
  | [], vs, _, h => by cases h; rfl
  | o :: l, vs, hor, h => by
    simp only [evs] at h
    cases hv : ev ng T o with
    | none => rw [hv] at h; cases h
    | some v =>
      cases hl : evs ng T l with
      | none => rw [hv, hl] at h; cases h
      | some y =>
        rw [hv, hl] at h; cases h
        exact concs_cons_mk (hor o (by simp) v hv) (evs_conc (fun x hx => hor x (by simp [hx])) hl)

/-! ### Cells -/
theorem cell_of {w : World} {b : Nat} {arr : Array Value} {e : TypeId} {fr : Nat × Nat} (h : w.heap[b]? = some (.cells arr e fr)) (j : Nat) : w.cell? ⟨b, j, none⟩ = arr[j]? := by
  simp [World.cell?, h]

/-- A row of cells: where its cells lie, and that none of them is frozen. -/
theorem real_cells {φ : Phi} {L : Loc} {o : Obj} {c : List AV} {e : TypeId} {k : Nat} (h : Real φ L o (.cells c e k)) :
    ∃ cs pre post lo hi, concs φ c = some cs ∧ o = .cells (pre ++ (cs ++ post)).toArray e (lo, hi) ∧ pre.length = L.o ∧ (∀ i, i < (pre ++ (cs ++ post)).length → ¬ (lo ≤ i ∧ i < hi)) := by
  match k, h with
  | s + 2, ⟨cs, pre, post, lo, hi, h1, h2, h3, _, h5⟩ => exact ⟨cs, pre, post, lo, hi, h1, h2, h3, h5⟩
  | 0, ⟨cs, h1, h2, h3⟩ => exact ⟨cs, [], [], 0, 0, h1, by simpa using h2, by simp [h3], by intro i _; omega⟩
  | 1, ⟨cs, h1, h2, h3⟩ => exact ⟨cs, [], [], 0, 0, h1, by simpa using h2, by simp [h3], by intro i _; omega⟩

theorem cell_real {φ : Phi} {G : Nat → Option Blk} {w : World} (hw : WR φ G w) {b : Nat} {c : List AV} {e : TypeId} {k : Nat} {L : Loc}
    (hb : G b = some (.cells c e k)) (hL : φ b = some L) : ∃ cs, concs φ c = some cs ∧ ∀ j x, cs[j]? = some x → w.cell? ⟨L.b, L.o + j, none⟩ = some x := by
  obtain ⟨o, ho, hr⟩ := hw.real b _ L hb hL
  obtain ⟨cs, pre, post, lo, hi, h1, rfl, h3, _⟩ := real_cells hr
  refine ⟨cs, h1, fun j x hx => ?_⟩
  rw [cell_of ho]
  have hj : j < cs.length := (List.getElem?_eq_some_iff.1 hx).1
  simp only [List.getElem?_toArray]
  rw [List.getElem?_append_right (by omega), List.getElem?_append_left (by omega), ← h3]
  simpa using hx

theorem add_eq (b o n : Nat) : Addr.add ⟨b, o, none⟩ n = ⟨b, o + n, none⟩ := by
  cases n <;> simp [Addr.add]

/-- n of a row's cells, from off on, handed on. -/
noncomputable def subK {β : Type} (l : List AV) : Nat → Nat → β → (List AV → β) → β :=
  List.rec (fun _ n bad k => Nat.casesOn n (k []) fun _ => bad)
    (fun x _ ih o n bad k => Nat.casesOn o (Nat.casesOn n (k []) fun n => ih 0 n bad fun r => k (x :: r)) fun o => ih o n bad k) l
theorem subK_ok : ∀ {l : List AV} {o n : Nat} {k : List AV → Bool}, subK l o n false k = true →
    ∃ r, r.length = n ∧ (∀ j v, r[j]? = some v → l[o + j]? = some v) ∧ k r = true
  | [], o, n, k, h => by
    cases n with
    | zero => exact ⟨[], rfl, by simp, h⟩
    | succ n => cases h
  | x :: l, 0, 0, k, h => ⟨[], rfl, by simp, h⟩
  | x :: l, 0, n + 1, k, h => by
    obtain ⟨r, h1, h2, h3⟩ := subK_ok (show subK l 0 n false (fun r => k (x :: r)) = true from h)
    refine ⟨x :: r, by simp [h1], fun j v hj => ?_, h3⟩
    cases j with
    | zero => simpa using hj
    | succ j => simpa using h2 j v (by simpa using hj)
  | x :: l, o + 1, n, k, h => by
    obtain ⟨r, h1, h2, h3⟩ := subK_ok (show subK l o n false k = true from h)
    exact ⟨r, h1, fun j v hj => by have := h2 j v hj; rw [show o + 1 + j = (o + j) + 1 by omega]; simpa using this, h3⟩
noncomputable def nthK {β : Type} (l : List AV) : Nat → β → (AV → β) → β :=
  List.rec (fun _ bad _ => bad) (fun x _ ih o bad k => Nat.casesOn o (k x) fun o => ih o bad k) l
theorem nthK_ok : ∀ {l : List AV} {o : Nat} {k : AV → Bool}, nthK l o false k = true → ∃ v, l[o]? = some v ∧ k v = true
  | [], _, _, h => by cases h
  | x :: l, 0, k, h => ⟨x, rfl, h⟩
  | x :: l, o + 1, k, h => by simpa using nthK_ok (show nthK l o false k = true from h)

theorem sub_conc {φ : Phi} {l r : List AV} {o n : Nat} {cs : List Value} (hl : concs φ l = some cs) (hn : r.length = n) (hs : ∀ j v, r[j]? = some v → l[o + j]? = some v) :
    ∃ xs, concs φ r = some xs ∧ xs.length = n ∧ ∀ j x, xs[j]? = some x → cs[o + j]? = some x := by
  induction r generalizing o n with
  | nil => exact ⟨[], rfl, by simpa using hn, by simp⟩
  | cons v r ih =>
    obtain ⟨x, hx, hv⟩ := concs_get (o + 0) hl (hs 0 v rfl)
    obtain ⟨xs, h1, h2, h3⟩ := ih (o := o + 1) (n := r.length) rfl (fun j u hj => by have := hs (j + 1) u (by simpa using hj); rwa [show o + (j + 1) = o + 1 + j by omega] at this)
    refine ⟨x :: xs, concs_cons_mk hv h1, by simp [h2, ← hn], fun j y hj => ?_⟩
    cases j with
    | zero => simp at hj; subst hj; exact hx
    | succ j => have := h3 j y (by simpa using hj); rwa [show o + 1 + j = o + (j + 1) by omega] at this

def aggD : TypeDesc → Bool
  | .struct _ => true
  | .array _ _ => true
  | _ => false

theorem runIsAgg {K : Tab} (hK : K.Ok) {t : TypeId} {d : TypeDesc} (hd : K.und t = some d) (w : World) : (isAgg t).run K.P w = .ok (aggD d) w := by
  simp only [isAgg, Sem.run_bind, hK.runUnd hd, Result.andThen_ok]
  cases d <;> rfl
theorem runSize {K : Tab} (hK : K.Ok) {t : TypeId} {i : TypeInfo} (hi : K.inf t = some i) (w : World) : (Go.sizeOf t).run K.P w = .ok i.size w := by
  simp [Go.sizeOf, hK.runInf hi]

/-- A value of a type, out of a row of cells. -/
structure CPart where
  go : List AV → Nat → (AV → Bool) → Bool
noncomputable def cpart (K : Tab) (t : TypeId) : CPart :=
  match K.und t with
  | some d => match aggD d with
    | true => match K.inf t with
      | some i => ⟨fun l o k => subK l o i.size false fun r => k (.agg r)⟩
      | none => ⟨fun _ _ _ => false⟩
    | false => ⟨fun l o k => nthK l o false k⟩
  | none => ⟨fun _ _ _ => false⟩

/-- What it says: 'v' is what lies there. -/
def IsPart (K : Tab) (t : TypeId) (l : List AV) (o : Nat) (v : AV) : Prop :=
  ∃ d, K.und t = some d ∧ ((aggD d = true ∧ ∃ i r, K.inf t = some i ∧ r.length = i.size ∧ (∀ j u, r[j]? = some u → l[o + j]? = some u) ∧ v = .agg r) ∨ (aggD d = false ∧ l[o]? = some v))
theorem cpart_ok {K : Tab} {t : TypeId} {l : List AV} {o : Nat} {k : AV → Bool} (h : (cpart K t).go l o k = true) : ∃ v, IsPart K t l o v ∧ k v = true := by
  unfold cpart at h
  cases hd : K.und t with
  | none => rw [hd] at h; cases h
  | some d =>
    rw [hd] at h
    cases ha : aggD d with
    | true =>
      simp only [ha] at h
      cases hi : K.inf t with
      | none => rw [hi] at h; cases h
      | some i =>
        rw [hi] at h
        obtain ⟨r, h1, h2, h3⟩ := subK_ok h
        exact ⟨.agg r, ⟨d, hd, .inl ⟨ha, i, r, hi, h1, h2, rfl⟩⟩, h3⟩
    | false =>
      simp only [ha] at h
      obtain ⟨v, h1, h2⟩ := nthK_ok h
      exact ⟨v, ⟨d, hd, .inr ⟨ha, h1⟩⟩, h2⟩

/-- A variable that is read out of a row. -/
theorem loadVar_of {K : Tab} (hK : K.Ok) {φ : Phi} {t : TypeId} {l : List AV} {o : Nat} {v : AV} (hp : IsPart K t l o v) {cs : List Value} (hl : concs φ l = some cs)
    {w : World} {b off : Nat} (hc : ∀ j x, cs[j]? = some x → w.cell? ⟨b, off + j, none⟩ = some x) :
    ∃ x, conc φ v = some x ∧ (loadVar t ⟨b, off + o, none⟩).run K.P w = .ok x w := by
  obtain ⟨d, hd, h | h⟩ := hp
  · obtain ⟨ha, i, r, hi, hn, hs, rfl⟩ := h
    obtain ⟨xs, h1, h2, h3⟩ := sub_conc hl hn hs
    refine ⟨.agg xs.toArray, conc_agg_mk h1, ?_⟩
    simp only [loadVar, Sem.run_bind, runIsAgg hK hd, ha, Result.andThen_ok, if_true, runSize hK hi, ← h2]
    rw [run_loadCells_list w ⟨b, off + o, none⟩ xs (fun j x hj => by rw [add_eq, Nat.add_assoc]; exact hc _ x (h3 j x hj))]
    rfl
  · obtain ⟨ha, hv⟩ := h
    obtain ⟨x, hx, hcx⟩ := concs_get o hl hv
    refine ⟨x, hcx, ?_⟩
    simp only [loadVar, Sem.run_bind, runIsAgg hK hd, ha, Result.andThen_ok, Bool.false_eq_true, if_false, run_load, hc o x hx]

/-- A part that is read out of a value. -/
theorem part_of {K : Tab} (hK : K.Ok) {φ : Phi} {t : TypeId} {l : List AV} {o : Nat} {v : AV} (hp : IsPart K t l o v) {cs : List Value} (hl : concs φ l = some cs) (w : World) :
    ∃ x, conc φ v = some x ∧ (part t cs.toArray o).run K.P w = .ok x w := by
  obtain ⟨d, hd, h | h⟩ := hp
  · obtain ⟨ha, i, r, hi, hn, hs, rfl⟩ := h
    obtain ⟨xs, h1, h2, h3⟩ := sub_conc hl hn hs
    refine ⟨.agg xs.toArray, conc_agg_mk h1, ?_⟩
    simp only [part, Sem.run_bind, runIsAgg hK hd, ha, Result.andThen_ok, if_true, runSize hK hi, ← h2]
    have e : cs.toArray.extract o (o + xs.length) = xs.toArray := by
      apply Array.ext'
      simp only [Array.toList_extract, List.extract_eq_take_drop, Nat.add_sub_cancel_left]
      apply List.ext_getElem?
      intro j
      by_cases hj : j < xs.length
      · have := h3 j xs[j] (by simp [hj])
        rw [List.getElem?_take_of_lt hj, List.getElem?_drop]
        simpa [hj] using this
      · rw [List.getElem?_eq_none (l := xs) (by omega), List.getElem?_eq_none]
        simp; omega
    rw [e]; rfl
  · obtain ⟨ha, hv⟩ := h
    obtain ⟨x, hx, hcx⟩ := concs_get o hl hv
    refine ⟨x, hcx, ?_⟩
    simp [part, runIsAgg hK hd, ha, hx]

end GoX
