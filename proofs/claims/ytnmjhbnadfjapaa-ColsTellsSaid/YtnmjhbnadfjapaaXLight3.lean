/-
  THE OPERATIONS THAT CHANGE NO MEMORY: texts, equality, what is built. No program is named here.
-/
import Derived.Test.YtnmjhbnadfjapaaXLight2
import Derived.ChangeKeysEq
namespace GoX
open Go

/-! ### Texts -/
noncomputable def bytesEq (x : List UInt8) : List UInt8 → Bool :=
  List.rec (fun y => List.casesOn y true fun _ _ => false) (fun a _ ih y => List.casesOn y false fun b y => cond (Nat.beq a.toNat b.toNat) (ih y) false) x
noncomputable def bytesLt (x : List UInt8) : List UInt8 → Bool :=
  List.rec (fun y => List.casesOn y false fun _ _ => true) (fun a _ ih y => List.casesOn y false fun b y => cond (Nat.blt a.toNat b.toNat) true (cond (Nat.beq a.toNat b.toNat) (ih y) false)) x

theorem u8_beq (a b : UInt8) : Nat.beq a.toNat b.toNat = decide (a = b) := by
  rw [Bool.eq_iff_iff]; simp only [Nat.beq_eq, decide_eq_true_eq]; exact ⟨fun h => UInt8.toNat_inj.1 h, fun h => by rw [h]⟩
theorem bytesEq_eq : ∀ (x y : List UInt8), bytesEq x y = decide (x = y)
  | [], [] => rfl
  | [], _ :: _ => rfl
  | _ :: _, [] => rfl
  | a :: x, b :: y => by
    show cond (Nat.beq a.toNat b.toNat) (bytesEq x y) false = _
    rw [bytesEq_eq x y, u8_beq]
    by_cases h : a = b <;> simp [h]
theorem bytesLt_eq : ∀ (x y : List UInt8), bytesLt x y = Op.bytesLess x y
  | [], [] => rfl
  | [], _ :: _ => rfl
  | _ :: _, [] => rfl
  | a :: x, b :: y => by
    show cond (Nat.blt a.toNat b.toNat) true (cond (Nat.beq a.toNat b.toNat) (bytesLt x y) false) = _
    rw [bytesLt_eq x y, u8_beq]
    have hl : Nat.blt a.toNat b.toNat = decide (a < b) := by
      rw [Bool.eq_iff_iff]; simp [Nat.blt_eq, UInt8.lt_iff_toNat_lt]
    rw [hl]
    simp only [Op.bytesLess]
    by_cases h1 : a < b <;> by_cases h2 : a = b <;> simp [h1, h2]

theorem toList_mk (s : List UInt8) : (⟨s.toArray⟩ : ByteArray).toList = s := by rw [ByteArray.toList_eq]

noncomputable def strB (op : BinOp) : CB :=
  match op with
  | .add => ⟨fun a b k => match a, b with
    | .str x, .str y => cond (Nat.blt (x.length + y.length) 9223372036854775808) (forceU (x ++ y) fun s => k (.str s)) false
    | _, _ => false⟩
  | .eql => ⟨fun a b k => match a, b with
    | .str x, .str y => forceB (bytesEq x y) fun n => k (.bool n)
    | _, _ => false⟩
  | .neq => ⟨fun a b k => match a, b with
    | .str x, .str y => forceB (!bytesEq x y) fun n => k (.bool n)
    | _, _ => false⟩
  | .lss => ⟨fun a b k => match a, b with
    | .str x, .str y => forceB (bytesLt x y) fun n => k (.bool n)
    | _, _ => false⟩
  | .leq => ⟨fun a b k => match a, b with
    | .str x, .str y => forceB (bytesLt x y || bytesEq x y) fun n => k (.bool n)
    | _, _ => false⟩
  | .gtr => ⟨fun a b k => match a, b with
    | .str x, .str y => forceB (!(bytesLt x y || bytesEq x y)) fun n => k (.bool n)
    | _, _ => false⟩
  | .geq => ⟨fun a b k => match a, b with
    | .str x, .str y => forceB (!bytesLt x y) fun n => k (.bool n)
    | _, _ => false⟩
  | _ => CB.none

theorem strB_good (K : Tab) (op : BinOp) (t : TypeId) (xo yo : Operand) : CB.Good K op t xo yo (strB op) := by
  intro a b k h
  have hg : ∀ (x y : List UInt8) (w : World), (eqGuard op t xo yo (.string ⟨x.toArray⟩) (.string ⟨y.toArray⟩)).run K.P w = .ok () w :=
    fun x y w => run_guard_plain (P := K.P) _ t xo yo _ _ w (by simp) (by simp)
  have hbeq : ∀ x y : List UInt8, bytesEq x y = (x == y) := fun x y => by rw [bytesEq_eq]; rw [Bool.eq_iff_iff]; simp
  by_cases hop : op = .add
  · subst hop
    match a, b, h with
    | .str x, .str y, h =>
      obtain ⟨hc, h⟩ := cond_true_of h
      simp only [forceU_eq] at h
      refine ⟨_, fun φ w xa xb ha hb => ⟨_, rfl, ?_⟩, h⟩
      obtain rfl := conc_str ha
      obtain rfl := conc_str hb
      have hlt := blt_lt hc
      have hs : ¬ (((⟨x.toArray⟩ : ByteArray).size + (⟨y.toArray⟩ : ByteArray).size : Nat) : Int) > IntKind.i64.max := by
        have e1 : (⟨x.toArray⟩ : ByteArray).size = x.length := by simp [ByteArray.size]
        have e2 : (⟨y.toArray⟩ : ByteArray).size = y.length := by simp [ByteArray.size]
        rw [e1, e2]
        have : IntKind.i64.max = 9223372036854775807 := by decide
        rw [this]; omega
      have hx : (⟨x.toArray⟩ : ByteArray) ++ (⟨y.toArray⟩ : ByteArray) = ⟨(x ++ y).toArray⟩ := by
        apply ByteArray.ext
        simp [ByteArray.data_append]
      simp only [Sem.run_bind, hg, Result.andThen_ok, binOp, Op.stringOp]
      rw [if_neg hs, Sem.run_pure, hx]
  · cases op <;> first | (exact absurd rfl hop) | skip
    all_goals
      simp only [strB] at h
      first
        | (cases h; done)
        | (match a, b, h with
           | .str x, .str y, h =>
             simp only [forceB_eq] at h
             refine ⟨_, fun φ w xa xb ha hb => ⟨_, rfl, ?_⟩, h⟩
             obtain rfl := conc_str ha
             obtain rfl := conc_str hb
             simp only [Sem.run_bind, hg, Result.andThen_ok, binOp, Op.stringOp, toList_mk, Sem.run_pure, bytesLt_eq, hbeq])

/-! ### Equality -/
/-- What equality of two values of a type says. -/
def IsEq (K : Tab) (t : TypeId) (a b : AV) (r : Bool) : Prop :=
  ∀ (φ : Phi) (w : World) (xa xb : Value), conc φ a = some xa → conc φ b = some xb → ∀ d, (Op.equalIn (d + 2) t xa xb).run K.P w = .ok r w

structure CQ where
  go : AV → AV → (Bool → Bool) → Bool
def CQ.none : CQ := ⟨fun _ _ _ => false⟩
def CQ.Good (K : Tab) (t : TypeId) (c : CQ) : Prop := ∀ a b k, c.go a b k = true → ∃ r, IsEq K t a b r ∧ k r = true

/-- Equality of numbers, texts, truth values, by their type. -/
noncomputable def plainQ (d : TypeDesc) : CQ :=
  match d with
  | .int _ => ⟨fun a b k => match a, b with
    | .int i x, .int j y => cond (Nat.beq (kindNo i) (kindNo j)) (forceB (eqI x y) k) false
    | _, _ => false⟩
  | .string => ⟨fun a b k => match a, b with
    | .str x, .str y => forceB (bytesEq x y) k
    | _, _ => false⟩
  | .bool => ⟨fun a b k => match a, b with
    | .bool x, .bool y => Bool.casesOn x (Bool.casesOn y (k true) (k false)) (Bool.casesOn y (k false) (k true))
    | _, _ => false⟩
  | _ => CQ.none

theorem plainQ_ok {K : Tab} (hK : K.Ok) {t : TypeId} {d : TypeDesc} (hd : K.und t = some d) {a b : AV} {k : Bool → Bool} (h : (plainQ d).go a b k = true) :
    aggD d = false ∧ ∃ r, (∀ (φ : Phi) (w : World) (xa xb : Value), conc φ a = some xa → conc φ b = some xb → ∀ n, (Op.equalIn (n + 1) t xa xb).run K.P w = .ok r w) ∧ k r = true := by
  cases d <;> first | (cases h; done) | skip
  · exact ⟨rfl, by
      match a, b, h with
      | .bool x, .bool y, h =>
        have hk : k (x == y) = true := by cases x <;> cases y <;> exact h
        refine ⟨_, fun φ w xa xb ha hb n => ?_, hk⟩
        obtain rfl := conc_bool ha; obtain rfl := conc_bool hb
        exact run_equalIn_bool w n t x y (hK.und hd)⟩
  · rename_i kk
    exact ⟨rfl, by
      match a, b, h with
      | .int i x, .int j y, h =>
        obtain ⟨hc, h'⟩ := cond_true_of h
        simp only [forceB_eq] at h'
        refine ⟨_, fun φ w xa xb ha hb n => ?_, h'⟩
        obtain rfl := conc_int ha; obtain rfl := conc_int hb
        obtain rfl := kindNo_inj hc
        rw [run_equalIn_int w n t i kk x y (hK.und hd), eqI_beq]⟩
  · exact ⟨rfl, by
      match a, b, h with
      | .str x, .str y, h =>
        simp only [plainQ, forceB_eq] at h
        refine ⟨_, fun φ w xa xb ha hb n => ?_, h⟩
        obtain rfl := conc_str ha; obtain rfl := conc_str hb
        rw [run_equalIn_string w n t _ _ (hK.und hd), toList_mk, toList_mk, bytesEq_eq]
        congr 1
        rw [Bool.eq_iff_iff]; simp⟩

structure CFs where
  go : List AV → List AV → (Bool → Bool) → Bool
noncomputable def fieldsQ (K : Tab) : List Field → CFs
  | [] => ⟨fun _ _ k => k true⟩
  | f :: fs => match decide (f.name = "_"), K.und f.type with
    | false, some d => ⟨fun xs ys k => nthK xs f.offset false fun a => nthK ys f.offset false fun b => (plainQ d).go a b fun r => Bool.casesOn r (k false) ((fieldsQ K fs).go xs ys k)⟩
    | _, _ => ⟨fun _ _ _ => false⟩
theorem fieldsQ_ok {K : Tab} (hK : K.Ok) : ∀ {fs : List Field} {xs ys : List AV} {k : Bool → Bool}, (fieldsQ K fs).go xs ys k = true →
    ∃ r, (∀ (φ : Phi) (w : World) (xa xb : List Value), concs φ xs = some xa → concs φ ys = some xb → ∀ n, (Op.eqFields (n + 1) xa.toArray xb.toArray fs).run K.P w = .ok r w) ∧ k r = true
  | [], xs, ys, k, h => ⟨true, fun φ w xa xb _ _ n => rfl, h⟩
  | f :: fs, xs, ys, k, h => by
    unfold fieldsQ at h
    split at h
    · rename_i d hn hd
      obtain ⟨a, ha, h⟩ := nthK_ok h
      obtain ⟨b, hb, h⟩ := nthK_ok h
      obtain ⟨hagg, r, hr, h⟩ := plainQ_ok hK hd h
      have hname : f.name ≠ "_" := of_decide_eq_false hn
      have hone : ∀ (φ : Phi) (w : World) (xa xb : List Value), concs φ xs = some xa → concs φ ys = some xb → ∀ n,
          (Op.eqFields (n + 1) xa.toArray xb.toArray (f :: fs)).run K.P w = if r = true then (Op.eqFields (n + 1) xa.toArray xb.toArray fs).run K.P w else .ok false w := by
        intro φ w xa xb hxa hxb n
        obtain ⟨x, hx, hcx⟩ := concs_get f.offset hxa ha
        obtain ⟨y, hy, hcy⟩ := concs_get f.offset hxb hb
        simp only [Op.eqFields, hname, ne_eq, not_false_eq_true, if_true, Sem.run_bind, part, runIsAgg hK hd, hagg, Result.andThen_ok, Bool.false_eq_true, if_false,
          List.getElem?_toArray, hx, hy, Sem.run_pure, hr φ w x y hcx hcy n]
        cases r <;> rfl
      cases r with
      | false => exact ⟨false, fun φ w xa xb hxa hxb n => by rw [hone φ w xa xb hxa hxb n]; rfl, h⟩
      | true =>
        obtain ⟨r', hr', hk⟩ := fieldsQ_ok hK (show (fieldsQ K fs).go xs ys k = true from h)
        exact ⟨r', fun φ w xa xb hxa hxb n => by rw [hone φ w xa xb hxa hxb n, if_pos rfl]; exact hr' φ w xa xb hxa hxb n, hk⟩
    · cases h

/-- Equality of rows of plain elements, one by one. -/
noncomputable def elemsQ (d : TypeDesc) (m : Nat) : Nat → CFs :=
  Nat.rec (fun _ => ⟨fun _ _ k => k true⟩) (fun _ ih i => ⟨fun xs ys k => nthK xs i false fun a => nthK ys i false fun b => (plainQ d).go a b fun r => Bool.casesOn r (k false) ((ih (i + 1)).go xs ys k)⟩) m
theorem elemsQ_ok {K : Tab} (hK : K.Ok) {e : TypeId} {d : TypeDesc} (hd : K.und e = some d) : ∀ (m i : Nat) {xs ys : List AV} {k : Bool → Bool}, (elemsQ d m i).go xs ys k = true →
    ∃ r, (∀ (φ : Phi) (w : World) (xa xb : List Value), concs φ xs = some xa → concs φ ys = some xb → ∀ n, (Op.eqItems (n + 1) e 1 xa.toArray xb.toArray (List.range' i m)).run K.P w = .ok r w) ∧ k r = true
  | 0, i, xs, ys, k, h => ⟨true, fun φ w xa xb _ _ n => rfl, h⟩
  | m + 1, i, xs, ys, k, h => by
    obtain ⟨a, ha, h⟩ := nthK_ok (show nthK xs i false _ = true from h)
    obtain ⟨b, hb, h⟩ := nthK_ok h
    obtain ⟨hagg, r, hr, h⟩ := plainQ_ok hK hd h
    have hone : ∀ (φ : Phi) (w : World) (xa xb : List Value), concs φ xs = some xa → concs φ ys = some xb → ∀ n,
        (Op.eqItems (n + 1) e 1 xa.toArray xb.toArray (List.range' i (m + 1))).run K.P w = if r = true then (Op.eqItems (n + 1) e 1 xa.toArray xb.toArray (List.range' (i + 1) m)).run K.P w else .ok false w := by
      intro φ w xa xb hxa hxb n
      obtain ⟨x, hx, hcx⟩ := concs_get i hxa ha
      obtain ⟨y, hy, hcy⟩ := concs_get i hxb hb
      simp only [List.range'_succ, Op.eqItems, Sem.run_bind, part, runIsAgg hK hd, hagg, Result.andThen_ok, Bool.false_eq_true, if_false,
        Nat.mul_one, List.getElem?_toArray, hx, hy, Sem.run_pure, hr φ w x y hcx hcy n]
      cases r <;> rfl
    cases r with
    | false => exact ⟨false, fun φ w xa xb hxa hxb n => by rw [hone φ w xa xb hxa hxb n]; rfl, h⟩
    | true =>
      obtain ⟨r', hr', hk⟩ := elemsQ_ok hK hd m (i + 1) (show (elemsQ d m (i + 1)).go xs ys k = true from h)
      exact ⟨r', fun φ w xa xb hxa hxb n => by rw [hone φ w xa xb hxa hxb n, if_pos rfl]; exact hr' φ w xa xb hxa hxb n, hk⟩

def memN (n : Nat) : List Nat → Bool
  | [] => false
  | m :: l => Nat.beq m n || memN n l
theorem memN_ok {n : Nat} : ∀ {l : List Nat}, memN n l = true → n ∈ l
  | [], h => by cases h
  | m :: l, h => by
    simp only [memN, Bool.or_eq_true] at h
    rcases h with h | h
    · rw [beq_eq' h]; simp
    · exact List.mem_cons_of_mem _ (memN_ok h)

/-- Against nil. -/
noncomputable def nilQ (d : TypeDesc) : CQ :=
  match d with
  | .pointer _ => ⟨fun a b k => match a, b with
    | .ptr none, .ptr none => k true
    | .ptr none, .ptr (some _) => k false
    | .ptr (some _), .ptr none => k false
    | _, _ => false⟩
  | .interface _ => ⟨fun a b k => match a, b with
    | .nilIfc, .nilIfc => k true
    | .nilIfc, .ifc _ _ => k false
    | .ifc _ _, .nilIfc => k false
    | _, _ => false⟩
  | .slice _ => ⟨fun a b k => match a, b with
    | .sl none _ (.exact _), .sl none _ (.exact _) => k true
    | .sl none _ (.exact _), .sl (some _) _ _ => k false
    | .sl (some _) _ _, .sl none _ (.exact _) => k false
    | _, _ => false⟩
  | .map _ _ => ⟨fun a b k => match a, b with
    | .map none, .map none => k true
    | .map none, .map (some _) => k false
    | .map (some _), .map none => k false
    | _, _ => false⟩
  | .func _ _ _ => ⟨fun a b k => match a, b with
    | .nilFn, .nilFn => k true
    | .nilFn, .fn _ _ _ => k false
    | .fn _ _ _, .nilFn => k false
    | _, _ => false⟩
  | _ => CQ.none

theorem conc_sl_some {φ : Phi} {p : Nat × Nat} {n : Nat} {c : Cap} {r : Value} (h : conc φ (.sl (some p) n c) = some r) : ∃ a m cap, r = .slice (some a) m cap := by
  obtain ⟨b, o⟩ := p
  simp only [conc] at h
  cases c with
  | exact c =>
    simp only [concSl, concP] at h
    cases hb : φ b with
    | none => rw [hb] at h; cases h
    | some L => rw [hb] at h; cases h; exact ⟨_, _, _, rfl⟩
  | opened lo =>
    simp only [concSl] at h
    cases hb : φ b with
    | none => rw [hb] at h; cases h
    | some L => rw [hb] at h; simp only at h; split at h <;> cases h; exact ⟨_, _, _, rfl⟩
  | edge lo old =>
    simp only [concSl] at h
    cases hb : φ b with
    | none => rw [hb] at h; cases h
    | some L => rw [hb] at h; simp only at h; split at h <;> cases h; exact ⟨_, _, _, rfl⟩

theorem nilQ_ok {K : Tab} (hK : K.Ok) {t : TypeId} {d : TypeDesc} (hd : K.und t = some d) {a b : AV} {k : Bool → Bool} (h : (nilQ d).go a b k = true) :
    ∃ r, (∀ (φ : Phi) (w : World) (xa xb : Value), conc φ a = some xa → conc φ b = some xb → ∀ n, (Op.equalIn (n + 1) t xa xb).run K.P w = .ok r w) ∧ k r = true := by
  have hu := hK.und hd
  cases d <;> first | (cases h; done) | skip
  · match a, b, h with
    | .ptr none, .ptr none, h =>
      refine ⟨true, fun φ w xa xb ha hb n => ?_, h⟩
      cases ha; cases hb
      simp [Op.equalIn, run_underlying hu]
    | .ptr none, .ptr (some (b, o)), h =>
      refine ⟨false, fun φ w xa xb ha hb n => ?_, h⟩
      cases ha; obtain ⟨L, _, rfl⟩ := conc_ptr hb
      simp [Op.equalIn, run_underlying hu]
    | .ptr (some (b, o)), .ptr none, h =>
      refine ⟨false, fun φ w xa xb ha hb n => ?_, h⟩
      cases hb; obtain ⟨L, _, rfl⟩ := conc_ptr ha
      simp [Op.equalIn, run_underlying hu]
  · match a, b, h with
    | .sl none _ (.exact _), .sl none _ (.exact _), h =>
      refine ⟨true, fun φ w xa xb ha hb n => ?_, h⟩
      cases ha; cases hb
      simp [Op.equalIn, run_underlying hu]
    | .sl none _ (.exact _), .sl (some p) _ _, h =>
      refine ⟨false, fun φ w xa xb ha hb n => ?_, h⟩
      cases ha; obtain ⟨_, _, _, rfl⟩ := conc_sl_some hb
      simp [Op.equalIn, run_underlying hu]
    | .sl (some p) _ _, .sl none _ (.exact _), h =>
      refine ⟨false, fun φ w xa xb ha hb n => ?_, h⟩
      cases hb; obtain ⟨_, _, _, rfl⟩ := conc_sl_some ha
      simp [Op.equalIn, run_underlying hu]
  · match a, b, h with
    | .map none, .map none, h =>
      refine ⟨true, fun φ w xa xb ha hb n => ?_, h⟩
      cases ha; cases hb
      simp [Op.equalIn, run_underlying hu]
    | .map none, .map (some p), h =>
      refine ⟨false, fun φ w xa xb ha hb n => ?_, h⟩
      cases ha; obtain ⟨_, _, rfl⟩ := conc_map hb
      simp [Op.equalIn, run_underlying hu]
    | .map (some p), .map none, h =>
      refine ⟨false, fun φ w xa xb ha hb n => ?_, h⟩
      cases hb; obtain ⟨_, _, rfl⟩ := conc_map ha
      simp [Op.equalIn, run_underlying hu]
  · match a, b, h with
    | .nilFn, .nilFn, h =>
      refine ⟨true, fun φ w xa xb ha hb n => ?_, h⟩
      cases ha; cases hb
      simp [Op.equalIn, run_underlying hu]
    | .nilFn, .fn _ _ _, h =>
      refine ⟨false, fun φ w xa xb ha hb n => ?_, h⟩
      cases ha; obtain ⟨_, _, _, _, rfl⟩ := conc_fn hb
      simp [Op.equalIn, run_underlying hu]
    | .fn _ _ _, .nilFn, h =>
      refine ⟨false, fun φ w xa xb ha hb n => ?_, h⟩
      cases hb; obtain ⟨_, _, _, _, rfl⟩ := conc_fn ha
      simp [Op.equalIn, run_underlying hu]
  · match a, b, h with
    | .nilIfc, .nilIfc, h =>
      refine ⟨true, fun φ w xa xb ha hb n => ?_, h⟩
      cases ha; cases hb
      simp [Op.equalIn, run_underlying hu]
    | .nilIfc, .ifc _ _, h =>
      refine ⟨false, fun φ w xa xb ha hb n => ?_, h⟩
      cases ha; obtain ⟨_, _, rfl⟩ := conc_ifc hb
      simp [Op.equalIn, run_underlying hu]
    | .ifc _ _, .nilIfc, h =>
      refine ⟨false, fun φ w xa xb ha hb n => ?_, h⟩
      cases hb; obtain ⟨_, _, rfl⟩ := conc_ifc ha
      simp [Op.equalIn, run_underlying hu]

/-- Equality by the type. -/
noncomputable def eqQ (K : Tab) (t : TypeId) : CQ :=
  match K.und t with
  | some (.struct fs) => match memN t K.eqs with
    | true => ⟨fun a b k => match a, b with
      | .agg xs, .agg ys => (fieldsQ K fs.toList).go xs ys k
      | _, _ => false⟩
    | false => CQ.none
  | some (.array n e) => match K.und e, K.inf e with
    | some d, some j => ⟨fun a b k => match a, b with
      | .agg xs, .agg ys => cond (Nat.beq j.size 1) ((elemsQ d n 0).go xs ys k) false
      | _, _ => false⟩
    | _, _ => CQ.none
  | some (.int i) => plainQ (.int i)
  | some .string => plainQ .string
  | some .bool => plainQ .bool
  | some d => nilQ d
  | none => CQ.none
theorem eqQ_good {K : Tab} (hK : K.Ok) (t : TypeId) : CQ.Good K t (eqQ K t) := by
  intro a b k h
  unfold eqQ at h
  split at h
  · rename_i fs hs
    split at h
    · rename_i hm
      match a, b, h with
      | .agg xs, .agg ys, h =>
        obtain ⟨r, hr, hk⟩ := fieldsQ_ok hK h
        refine ⟨r, fun φ w xa xb ha hb n => ?_, hk⟩
        obtain ⟨xs', hxs, rfl⟩ := conc_agg ha
        obtain ⟨ys', hys, rfl⟩ := conc_agg hb
        have hu := hK.und hs
        have hf : K.P.fieldsOf t = fs := by simp [Program.fieldsOf, hu]
        rw [run_equalIn_struct w (n + 1) t _ _ (by rw [hf]; exact hu) (hK.eqs t (memN_ok hm)).1, hf]
        exact hr φ w xs' ys' hxs hys n
    · cases h
  · rename_i m e hs
    split at h
    · rename_i d j hd hj
      match a, b, h with
      | .agg xs, .agg ys, h =>
        obtain ⟨hsz, h⟩ := cond_true_of h
        have hsz := beq_eq' hsz
        obtain ⟨r, hr, hk⟩ := elemsQ_ok hK hd m 0 h
        refine ⟨r, fun φ w xa xb ha hb n => ?_, hk⟩
        obtain ⟨xs', hxs, rfl⟩ := conc_agg ha
        obtain ⟨ys', hys, rfl⟩ := conc_agg hb
        have hc : K.P.cellsOf e = 1 := by simp [Program.cellsOf, hK.inf hj, hsz]
        rw [run_equalIn_array w (n + 1) _ _ (hK.und hs) (hK.inf hj), hc, List.range_eq_range']
        exact hr φ w xs' ys' hxs hys n
    · cases h
  · rename_i i hs
    obtain ⟨_, r, hr, hk⟩ := plainQ_ok hK hs h
    exact ⟨r, fun φ w xa xb ha hb n => hr φ w xa xb ha hb (n + 1), hk⟩
  · rename_i hs
    obtain ⟨_, r, hr, hk⟩ := plainQ_ok hK hs h
    exact ⟨r, fun φ w xa xb ha hb n => hr φ w xa xb ha hb (n + 1), hk⟩
  · rename_i hs
    obtain ⟨_, r, hr, hk⟩ := plainQ_ok hK hs h
    exact ⟨r, fun φ w xa xb ha hb n => hr φ w xa xb ha hb (n + 1), hk⟩
  · rename_i d _ _ _ _ _ hs
    obtain ⟨r, hr, hk⟩ := nilQ_ok hK hs h
    exact ⟨r, fun φ w xa xb ha hb n => hr φ w xa xb ha hb (n + 1), hk⟩
  · cases h

def isConstO : Operand → Bool
  | .const _ => true
  | _ => false

/-- Two values that equality is asked of, as the model asks it; whether nil interfaces may be asked. -/
def eqShape (nils aggs : Bool) (a b : AV) : Bool :=
  match a with
  | .bool _ => true
  | .ptr _ => true
  | .sl _ _ _ => true
  | .map _ => true
  | .fn _ _ _ => true
  | .nilFn => true
  | .ifc _ _ => true
  | .nilIfc => match b with
    | .nilIfc => nils
    | .ifc _ _ => true
    | _ => false
  | .agg _ => aggs
  | _ => false

theorem eqShape_ok {K : Tab} (hK : K.Ok) {op : BinOp} {t : TypeId} {xo yo : Operand} {a b : AV} (hop : op = .eql ∨ op = .neq)
    (h : eqShape (isConstO xo || isConstO yo) (memN t K.eqs) a b = true) {φ : Phi} {xa xb : Value} (ha : conc φ a = some xa) (hb : conc φ b = some xb) (w : World) :
    (eqGuard op t xo yo xa xb).run K.P w = .ok () w ∧ binOp .eql t xa xb = (do pure (.bool (← Op.equal t xa xb))) ∧ binOp .neq t xa xb = (do pure (.bool (!(← Op.equal t xa xb)))) := by
  cases a <;> first | (cases h; done) | skip
  case bool x => obtain rfl := conc_bool ha; exact ⟨run_guard_plain _ _ _ _ _ _ _ (by simp) (by simp), by cases xb <;> rfl, by cases xb <;> rfl⟩
  case ptr p =>
    simp only [conc] at ha
    cases hp : concP φ p with
    | none => rw [hp] at ha; cases ha
    | some q => rw [hp] at ha; cases ha; exact ⟨run_guard_plain _ _ _ _ _ _ _ (by simp) (by simp), by cases xb <;> rfl, by cases xb <;> rfl⟩
  case sl p n c =>
    obtain ⟨_, _, rfl⟩ := conc_sl_len ha
    exact ⟨run_guard_plain _ _ _ _ _ _ _ (by simp) (by simp), by cases xb <;> rfl, by cases xb <;> rfl⟩
  case map r =>
    cases r with
    | none => cases ha; exact ⟨run_guard_plain _ _ _ _ _ _ _ (by simp) (by simp), by cases xb <;> rfl, by cases xb <;> rfl⟩
    | some r => obtain ⟨_, _, rfl⟩ := conc_map ha; exact ⟨run_guard_plain _ _ _ _ _ _ _ (by simp) (by simp), by cases xb <;> rfl, by cases xb <;> rfl⟩
  case fn f x y => obtain ⟨_, _, _, _, rfl⟩ := conc_fn ha; exact ⟨run_guard_plain _ _ _ _ _ _ _ (by simp) (by simp), by cases xb <;> rfl, by cases xb <;> rfl⟩
  case nilFn => cases ha; exact ⟨run_guard_plain _ _ _ _ _ _ _ (by simp) (by simp), by cases xb <;> rfl, by cases xb <;> rfl⟩
  case ifc u v => obtain ⟨_, _, rfl⟩ := conc_ifc ha; exact ⟨run_guard_plain _ _ _ _ _ _ _ (by simp) (by simp), by cases xb <;> rfl, by cases xb <;> rfl⟩
  case nilIfc =>
    cases ha
    refine ⟨?_, by cases xb <;> rfl, by cases xb <;> rfl⟩
    cases b <;> first | (cases h; done) | skip
    case ifc u v => obtain ⟨_, _, rfl⟩ := conc_ifc hb; exact run_guard_plain _ _ _ _ _ _ _ (by simp) (by simp)
    case nilIfc =>
      cases hb
      have hc : isConstO xo = true ∨ isConstO yo = true := by simpa [eqShape] using h
      rcases hc with hc | hc
      · cases xo <;> first | (cases hc; done) | (rcases hop with rfl | rfl <;> simp [eqGuard])
      · cases yo <;> first | (cases hc; done) | (rcases hop with rfl | rfl <;> simp [eqGuard])
  case agg l =>
    obtain ⟨x, _, rfl⟩ := conc_agg ha
    refine ⟨?_, by cases xb <;> rfl, by cases xb <;> rfl⟩
    by_cases hx : ∃ y, xb = .agg y
    · obtain ⟨y, rfl⟩ := hx
      exact run_eqGuard_agg w op t xo yo _ _ (hK.eqs t (memN_ok h)).2
    · have hno : ∀ y, xb ≠ .agg y := fun y e => hx ⟨y, e⟩
      rcases hop with rfl | rfl <;> simp [eqGuard] <;> (split <;> simp_all)

noncomputable def eqB (K : Tab) (t : TypeId) (xo yo : Operand) (neg : Bool) : CB :=
  ⟨fun a b k => cond (eqShape (isConstO xo || isConstO yo) (memN t K.eqs) a b) ((eqQ K t).go a b fun r => Bool.casesOn neg (k (.bool r)) (Bool.casesOn r (k (.bool true)) (k (.bool false)))) false⟩
theorem eqB_good {K : Tab} (hK : K.Ok) (t : TypeId) (xo yo : Operand) : CB.Good K .eql t xo yo (eqB K t xo yo false) ∧ CB.Good K .neq t xo yo (eqB K t xo yo true) := by
  constructor
  · intro a b k h
    obtain ⟨hs, h⟩ := cond_true_of h
    obtain ⟨r, hr, hk⟩ := eqQ_good hK t a b _ h
    refine ⟨.bool r, fun φ w xa xb ha hb => ⟨_, rfl, ?_⟩, hk⟩
    obtain ⟨h1, h2, h3⟩ := eqShape_ok hK (.inl rfl) hs ha hb w
    simp only [Sem.run_bind, h1, h2, Result.andThen_ok, Op.equal, Op.maxDepth, hr φ w xa xb ha hb 9998, Sem.run_pure]
  · intro a b k h
    obtain ⟨hs, h⟩ := cond_true_of h
    obtain ⟨r, hr, hk⟩ := eqQ_good hK t a b _ h
    refine ⟨.bool (!r), fun φ w xa xb ha hb => ⟨_, rfl, ?_⟩, by cases r <;> exact hk⟩
    obtain ⟨h1, h2, h3⟩ := eqShape_ok hK (.inr rfl) hs ha hb w
    simp only [Sem.run_bind, h1, h3, Result.andThen_ok, Op.equal, Op.maxDepth, hr φ w xa xb ha hb 9998, Sem.run_pure]

/-! ### Binary and unary operations -/
noncomputable def binB (K : Tab) (op : BinOp) (t : TypeId) (xo yo : Operand) : CB :=
  match K.und t with
  | some (.int _) => intB op
  | some .string => strB op
  | some _ => match op with
    | .eql => eqB K t xo yo false
    | .neq => eqB K t xo yo true
    | _ => CB.none
  | none => CB.none
theorem binB_good {K : Tab} (hK : K.Ok) (op : BinOp) (t : TypeId) (xo yo : Operand) : CB.Good K op t xo yo (binB K op t xo yo) := by
  unfold binB
  split
  · exact intB_good K op t xo yo
  · exact strB_good K op t xo yo
  · split
    · exact (eqB_good hK t xo yo).1
    · exact (eqB_good hK t xo yo).2
    · intro a b k h; cases h
  · intro a b k h; cases h

noncomputable def lBin (K : Tab) (op : BinOp) (t : TypeId) (x y : Operand) : CL := ⟨fun T _ k => (ce K.ng x).go T fun a => (ce K.ng y).go T fun b => (binB K op t x y).go a b k⟩
theorem lBin_good {K : Tab} (hK : K.Ok) (op : BinOp) (t : TypeId) (x y : Operand) (u : TypeId) : CL.Good K (.binOp op t x y u) (lBin K op t x y) := fun T H k h => by
  obtain ⟨a, ha, h⟩ := ce_ok h
  obtain ⟨b, hb, h⟩ := ce_ok h
  obtain ⟨v, hv, hk⟩ := binB_good hK op t x y a b k h
  refine ⟨v, fun φ ac w hor hw => ?_, hk⟩
  obtain ⟨r, hr, hrun⟩ := hv φ w _ _ (hor x (by simp [Op.operands]) _ ha) (hor y (by simp [Op.operands]) _ hb)
  refine ⟨r, hr, fun o ho => ?_⟩
  simp only [execOp, ho]
  exact run_value hrun

noncomputable def lUn (K : Tab) (op : UnOp) (x : Operand) : CL :=
  match op with
  | .neg => ⟨fun T _ k => (ce K.ng x).go T fun a => match a with
    | .int i n => forceI (wrapA i (0 - n)) fun m => k (.int i m)
    | _ => false⟩
  | .not => ⟨fun T _ k => (ce K.ng x).go T fun a => match a with
    | .bool b => Bool.casesOn b (k (.bool true)) (k (.bool false))
    | _ => false⟩
  | .xor => ⟨fun T _ k => (ce K.ng x).go T fun a => match a with
    | .int i n => forceI (wrapA i (BitVec.ofInt i.bits (if i.signed then -1 else i.max) ^^^ BitVec.ofInt i.bits n).toNat) fun m => k (.int i m)
    | _ => false⟩
  | .plus => CL.none
theorem lUn_good (K : Tab) (op : UnOp) (t : TypeId) (x : Operand) : CL.Good K (.unOp op t x) (lUn K op x) := fun T H k h => by
  cases op with
  | neg =>
    obtain ⟨a, ha, h⟩ := ce_ok h
    match a, h with
    | .int i n, h =>
      simp only [forceI_eq] at h
      refine ⟨_, fun φ ac w hor hw => ⟨_, rfl, fun o ho => ?_⟩, h⟩
      have hp := conc_int (hor x (by simp [Op.operands]) _ ha)
      simp only [execOp, ho]
      refine run_value ?_
      simp [hp, Op.unary, Op.intArith, wrapA_eq]
  | not =>
    obtain ⟨a, ha, h⟩ := ce_ok h
    match a, h with
    | .bool b, h =>
      refine ⟨.bool (!b), fun φ ac w hor hw => ⟨_, rfl, fun o ho => ?_⟩, by cases b <;> exact h⟩
      have hp := conc_bool (hor x (by simp [Op.operands]) _ ha)
      simp only [execOp, ho]
      refine run_value ?_
      simp [hp, Op.unary]
  | xor =>
    obtain ⟨a, ha, h⟩ := ce_ok h
    match a, h with
    | .int i n, h =>
      simp only [forceI_eq] at h
      refine ⟨_, fun φ ac w hor hw => ⟨_, rfl, fun o ho => ?_⟩, h⟩
      have hp := conc_int (hor x (by simp [Op.operands]) _ ha)
      simp only [execOp, ho]
      refine run_value ?_
      simp [hp, Op.unary, Op.intBits, wrapA_eq]
  | plus => cases h

end GoX
