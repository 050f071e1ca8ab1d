/-
  THE OPERATIONS THAT CHANGE NO MEMORY. No program is named here.
-/
import Derived.Test.YtnmjhbnadfjapaaXOps
import Derived.Laws.StructEq
namespace GoX
open Go

/-- What an operation that changes no memory gives: 'v', wherever the slots and the blocks are as told. -/
def SimL (K : Tab) (T : AT) (G : Nat → Option Blk) (op : Op) (v : AV) : Prop :=
  ∀ (φ : Phi) (a : Act) (w : World), OR K.ng φ T a op.operands.toList → WR φ G w →
    ∃ x, conc φ v = some x ∧ ∀ o : Oper, o.op = op → (execOp a.eval o).run K.P w = .ok (.value x) w

theorem SimL.more {K : Tab} {T : AT} {G G' : Nat → Option Blk} {op : Op} {v : AV} (h : SimL K T G op v) (hs : ∀ b blk, G b = some blk → G' b = some blk) : SimL K T G' op v :=
  fun φ a w hor hw => h φ a w hor (hw.less fun b blk hb _ => hs b blk hb)

structure CL where
  go : AT → AH → (AV → Bool) → Bool
def CL.none : CL := ⟨fun _ _ _ => false⟩

def CL.Good (K : Tab) (op : Op) (c : CL) : Prop := ∀ T H k, c.go T H k = true → ∃ v, SimL K T H.get op v ∧ k v = true
theorem CL.none_good (K : Tab) (op : Op) : CL.Good K op CL.none := fun _ _ _ h => by cases h

theorem run_value {P : Program} {s : Sem Value} {x : Value} {w : World} (h : s.run P w = .ok x w) : (do pure (Next.value (← s)) : Sem Next).run P w = .ok (.value x) w := by
  simp [h]

/-! ### Moves -/
noncomputable def lMove (K : Tab) (x : Operand) : CL := ⟨fun T _ k => (ce K.ng x).go T k⟩
theorem lMove_good (K : Tab) (x : Operand) : CL.Good K (.move x) (lMove K x) := fun T H k h => by
  obtain ⟨v, hv, hk⟩ := ce_ok h
  exact ⟨v, fun φ a w hor _ => ⟨_, hor x (by simp [Op.operands]) v hv, fun o ho => by simp [execOp, ho]⟩, hk⟩
theorem lAssign_good (K : Tab) (x : Operand) : CL.Good K (.assign x) (lMove K x) := fun T H k h => by
  obtain ⟨v, hv, hk⟩ := ce_ok h
  exact ⟨v, fun φ a w hor _ => ⟨_, hor x (by simp [Op.operands]) v hv, fun o ho => by simp [execOp, ho]⟩, hk⟩

noncomputable def lPick (K : Tab) (c a b : Operand) : CL := ⟨fun T _ k => (ce K.ng c).go T fun v => match v with
  | .bool t => Bool.casesOn t ((ce K.ng b).go T k) ((ce K.ng a).go T k)
  | _ => false⟩
theorem lPick_good (K : Tab) (c a b : Operand) : CL.Good K (.pick c a b) (lPick K c a b) := fun T H k h => by
  obtain ⟨v, hv, h⟩ := ce_ok h
  match v, h with
  | .bool true, h =>
    obtain ⟨u, hu, hk⟩ := ce_ok (show (ce K.ng a).go T k = true from h)
    refine ⟨u, fun φ ac w hor _ => ⟨_, hor a (by simp [Op.operands]) u hu, fun o ho => ?_⟩, hk⟩
    have hc := hor c (by simp [Op.operands]) _ hv
    simp only [conc] at hc
    injection hc with hc
    simp [execOp, ho, ← hc, asBool]
  | .bool false, h =>
    obtain ⟨u, hu, hk⟩ := ce_ok (show (ce K.ng b).go T k = true from h)
    refine ⟨u, fun φ ac w hor _ => ⟨_, hor b (by simp [Op.operands]) u hu, fun o ho => ?_⟩, hk⟩
    have hc := hor c (by simp [Op.operands]) _ hv
    simp only [conc] at hc
    injection hc with hc
    simp [execOp, ho, ← hc, asBool]

/-! ### Memory that is read -/
noncomputable def lLoad (K : Tab) (t : TypeId) (x : Operand) : CL := ⟨fun T H k => (ce K.ng x).go T fun v => match v with
  | .ptr (some a) => Trie.getK (bits a.1) H.t false fun blk => match blk with
    | .cells c _ _ => (cpart K t).go c a.2 k
    | _ => false
  | _ => false⟩
theorem getK_ok {H : AH} {b : Nat} {k : Blk → Bool} (h : Trie.getK (bits b) H.t false k = true) : ∃ blk, H.get b = some blk ∧ k blk = true := by
  rw [Trie.getK_eq] at h
  show ∃ blk, H.t.at' (bits b) = some blk ∧ _
  cases ha : H.t.at' (bits b) with
  | none => rw [ha] at h; cases h
  | some v => rw [ha] at h; exact ⟨v, rfl, h⟩
theorem lLoad_good {K : Tab} (hK : K.Ok) (t : TypeId) (x : Operand) : CL.Good K (.load t x) (lLoad K t x) := fun T H k h => by
  obtain ⟨v, hv, h⟩ := ce_ok h
  match v, h with
  | .ptr (some (b, o)), h =>
    obtain ⟨blk, hb, h⟩ := getK_ok h
    match blk, h with
    | .cells c e kd, h =>
      obtain ⟨u, hu, hk⟩ := cpart_ok h
      refine ⟨u, fun φ ac w hor hw => ?_, hk⟩
      obtain ⟨L, hL, hp⟩ := conc_ptr (hor x (by simp [Op.operands]) _ hv)
      obtain ⟨cs, hcs, hc⟩ := cell_real hw hb hL
      obtain ⟨y, hy, hr⟩ := loadVar_of hK hu hcs hc
      exact ⟨y, hy, fun op ho => by simp only [execOp, ho]; exact run_value (by simpa [Instr.loadAt, hp, Instr.sureAddr] using hr)⟩

noncomputable def lNilCheck (K : Tab) (x : Operand) : CL := ⟨fun T _ k => (ce K.ng x).go T fun v => match v with
  | .ptr (some a) => k (.ptr (some a))
  | .fn (.func f) a b => k (.fn (.func f) a b)
  | .ifc t v => k (.ifc t v)
  | _ => false⟩
theorem lNilCheck_good (K : Tab) (x : Operand) : CL.Good K (.nilCheck x) (lNilCheck K x) := fun T H k h => by
  obtain ⟨v, hv, h⟩ := ce_ok h
  match v, h with
  | .ptr (some (b, o)), h =>
    refine ⟨_, fun φ ac w hor hw => ⟨_, hor x (by simp [Op.operands]) _ hv, fun op ho => ?_⟩, h⟩
    obtain ⟨L, hL, hp⟩ := conc_ptr (hor x (by simp [Op.operands]) _ hv)
    simp [execOp, ho, hp]
  | .fn (.func f) a b, h =>
    refine ⟨_, fun φ ac w hor hw => ⟨_, hor x (by simp [Op.operands]) _ hv, fun op ho => ?_⟩, h⟩
    obtain ⟨_, _, _, _, hp⟩ := conc_fn (hor x (by simp [Op.operands]) _ hv)
    simp [execOp, ho, hp]
  | .ifc t u, h =>
    refine ⟨_, fun φ ac w hor hw => ⟨_, hor x (by simp [Op.operands]) _ hv, fun op ho => ?_⟩, h⟩
    obtain ⟨_, _, hp⟩ := conc_ifc (hor x (by simp [Op.operands]) _ hv)
    simp [execOp, ho, hp]

/-! ### Places -/
noncomputable def lFieldAddr (K : Tab) (s : TypeId) (x : Operand) (i : Nat) : CL :=
  match K.und s with
  | some (.struct fs) => match fs[i]? with
    | some f => match K.inf f.type with
      | some j => match Nat.beq j.size 0 with
        | true => CL.none
        | false => ⟨fun T _ k => (ce K.ng x).go T fun v => match v with
          | .ptr (some a) => forceN (a.2 + f.offset) fun o => k (.ptr (some (a.1, o)))
          | _ => false⟩
      | none => CL.none
    | none => CL.none
  | _ => CL.none
theorem lFieldAddr_good {K : Tab} (hK : K.Ok) (s : TypeId) (x : Operand) (i : Nat) : CL.Good K (.fieldAddr s x i) (lFieldAddr K s x i) := fun T H k h => by
  unfold lFieldAddr at h
  split at h
  · rename_i fs hs
    split at h
    · rename_i f hf
      split at h
      · rename_i j hj
        split at h
        · cases h
        · rename_i hsz
          obtain ⟨v, hv, h⟩ := ce_ok h
          match v, h with
          | .ptr (some (b, o)), h =>
            simp only [forceN_eq] at h
            refine ⟨_, fun φ ac w hor hw => ?_, h⟩
            obtain ⟨L, hL, hp⟩ := conc_ptr (hor x (by simp [Op.operands]) _ hv)
            refine ⟨_, conc_ptr_mk _ hL, fun op ho => ?_⟩
            simp only [execOp, ho]
            refine run_value ?_
            have hne : ¬ j.size = 0 := fun e => by rw [e] at hsz; cases hsz
            simp [Instr.fieldAt, Sem.run_bind, hK.runUnd hs, hf, hp, Instr.sureAddr, fieldPlace, runSize hK hj, hne, add_eq, Nat.add_assoc]
      · cases h
    · cases h
  · cases h

noncomputable def lField (K : Tab) (t : TypeId) (x : Operand) (i : Nat) : CL :=
  match K.und t with
  | some (.struct fs) => match fs[i]? with
    | some f => ⟨fun T _ k => (ce K.ng x).go T fun v => match v with
      | .agg cs => (cpart K f.type).go cs f.offset k
      | _ => false⟩
    | none => CL.none
  | _ => CL.none
theorem lField_good {K : Tab} (hK : K.Ok) (t : TypeId) (x : Operand) (i : Nat) : CL.Good K (.field t x i) (lField K t x i) := fun T H k h => by
  unfold lField at h
  split at h
  · rename_i fs hs
    split at h
    · rename_i f hf
      obtain ⟨v, hv, h⟩ := ce_ok h
      match v, h with
      | .agg cs, h =>
        obtain ⟨u, hu, hk⟩ := cpart_ok h
        refine ⟨u, fun φ ac w hor hw => ?_, hk⟩
        obtain ⟨xs, hxs, hp⟩ := conc_agg (hor x (by simp [Op.operands]) _ hv)
        obtain ⟨y, hy, hr⟩ := part_of hK hu hxs w
        refine ⟨y, hy, fun op ho => ?_⟩
        simp only [execOp, ho]
        refine run_value ?_
        simp [Instr.field, Sem.run_bind, hK.runUnd hs, hf, hp, asAgg, hr]
    · cases h
  · cases h

noncomputable def lIndexAddr (K : Tab) (t : TypeId) (x ix : Operand) : CL :=
  match K.und t with
  | some (.slice e) => match K.inf e with
    | some j => ⟨fun T _ k => (ce K.ng x).go T fun v => (ce K.ng ix).go T fun i => match v, i with
      | .sl (some a) n _, .int _ (.ofNat i) => cond (Nat.blt i n) (forceN (a.2 + i * j.size) fun o => k (.ptr (some (a.1, o)))) false
      | _, _ => false⟩
    | none => CL.none
  | some (.array n e) => match K.inf e with
    | some j => ⟨fun T _ k => (ce K.ng x).go T fun v => (ce K.ng ix).go T fun i => match v, i with
      | .ptr (some a), .int _ (.ofNat i) => cond (Nat.blt i n) (forceN (a.2 + i * j.size) fun o => k (.ptr (some (a.1, o)))) false
      | _, _ => false⟩
    | none => CL.none
  | _ => CL.none

theorem cond_true_of {b : Bool} {x : Bool} (h : cond b x false = true) : b = true ∧ x = true := by cases b <;> simp_all
theorem blt_lt {i n : Nat} (h : Nat.blt i n = true) : i < n := by simpa [Nat.blt_eq] using h
theorem ble_le {i n : Nat} (h : Nat.ble i n = true) : i ≤ n := by simpa using h
theorem beq_eq' {i n : Nat} (h : Nat.beq i n = true) : i = n := by simpa using h

/-- What a slice stands for: its address and its length. -/
theorem conc_sl {φ : Phi} {b o n : Nat} {c : Cap} {r : Value} (hn : 0 < n) (h : conc φ (.sl (some (b, o)) n c) = some r) : ∃ L cap, φ b = some L ∧ r = .slice (some ⟨L.b, L.o + o, none⟩) n cap := by
  simp only [conc] at h
  cases c with
  | exact c =>
    simp only [concSl, concP] at h
    cases hb : φ b with
    | none => rw [hb] at h; cases h
    | some L => rw [hb] at h; cases h; exact ⟨L, c, rfl, rfl⟩
  | opened lo =>
    simp only [concSl] at h
    cases hb : φ b with
    | none => rw [hb] at h; cases h
    | some L =>
      rw [hb] at h
      simp only at h
      split at h
      · cases h; exact ⟨L, _, rfl, rfl⟩
      · cases h
  | edge lo old =>
    simp only [concSl] at h
    cases hb : φ b with
    | none => rw [hb] at h; cases h
    | some L =>
      rw [hb] at h
      simp only at h
      rw [if_neg (by omega)] at h; cases h
/-- Its length, whatever it is. -/
theorem conc_sl_len {φ : Phi} {a : Option (Nat × Nat)} {n : Nat} {c : Cap} {r : Value} (h : conc φ (.sl a n c) = some r) : ∃ p cap, r = .slice p n cap := by
  simp only [conc] at h
  cases c with
  | exact c =>
    simp only [concSl] at h
    cases hb : concP φ a with
    | none => rw [hb] at h; cases h
    | some L => rw [hb] at h; cases h; exact ⟨L, c, rfl⟩
  | opened lo =>
    rcases a with _ | ⟨b, o⟩
    · cases h
    · simp only [concSl] at h
      cases hb : φ b with
      | none => rw [hb] at h; cases h
      | some L =>
        rw [hb] at h
        simp only at h
        split at h
        · cases h; exact ⟨_, _, rfl⟩
        · cases h
  | edge lo old =>
    rcases a with _ | ⟨b, o⟩
    · cases h
    · simp only [concSl] at h
      cases hb : φ b with
      | none => rw [hb] at h; cases h
      | some L =>
        rw [hb] at h
        simp only at h
        split at h
        · rename_i hc; cases h; exact ⟨_, _, by rw [hc.1]⟩
        · cases h

theorem conc_int {φ : Phi} {k : IntKind} {n : Int} {r : Value} (h : conc φ (.int k n) = some r) : r = .int k n := by simpa [conc] using h.symm
theorem conc_bool {φ : Phi} {b : Bool} {r : Value} (h : conc φ (.bool b) = some r) : r = .bool b := by simpa [conc] using h.symm
theorem conc_str {φ : Phi} {s : List UInt8} {r : Value} (h : conc φ (.str s) = some r) : r = .string ⟨s.toArray⟩ := by simpa [conc] using h.symm

theorem lIndexAddr_good {K : Tab} (hK : K.Ok) (t : TypeId) (x ix : Operand) : CL.Good K (.indexAddr t x ix) (lIndexAddr K t x ix) := fun T H k h => by
  unfold lIndexAddr at h
  split at h
  · rename_i e hs
    split at h
    · rename_i j hj
      obtain ⟨v, hv, h⟩ := ce_ok h
      obtain ⟨i, hi, h⟩ := ce_ok h
      match v, i, h with
      | .sl (some (b, o)) n c, .int kd (.ofNat i), h =>
        obtain ⟨hlt, h⟩ := cond_true_of h
        simp only [forceN_eq] at h
        have hlt := blt_lt hlt
        refine ⟨_, fun φ ac w hor hw => ?_, h⟩
        obtain ⟨L, cap, hL, hp⟩ := conc_sl (by omega) (hor x (by simp [Op.operands]) _ hv)
        have hq := conc_int (hor ix (by simp [Op.operands]) _ hi)
        refine ⟨_, conc_ptr_mk _ hL, fun op ho => ?_⟩
        simp only [execOp, ho]
        refine run_value ?_
        simp [Instr.indexAt, asIntOf, Sem.run_bind, hK.runUnd hs, hp, hq, runSize hK hj, hlt, add_eq, Nat.add_assoc]
    · cases h
  · rename_i n e hs
    split at h
    · rename_i j hj
      obtain ⟨v, hv, h⟩ := ce_ok h
      obtain ⟨i, hi, h⟩ := ce_ok h
      match v, i, h with
      | .ptr (some (b, o)), .int kd (.ofNat i), h =>
        obtain ⟨hlt, h⟩ := cond_true_of h
        simp only [forceN_eq] at h
        have hlt := blt_lt hlt
        refine ⟨_, fun φ ac w hor hw => ?_, h⟩
        obtain ⟨L, hL, hp⟩ := conc_ptr (hor x (by simp [Op.operands]) _ hv)
        have hq := conc_int (hor ix (by simp [Op.operands]) _ hi)
        refine ⟨_, conc_ptr_mk _ hL, fun op ho => ?_⟩
        simp only [execOp, ho]
        refine run_value ?_
        simp [Instr.indexAt, asIntOf, Sem.run_bind, hK.runUnd hs, hp, hq, Instr.sureAddr, runSize hK hj, hlt, add_eq, Nat.add_assoc]
    · cases h
  · cases h

noncomputable def nthU {β : Type} (l : List UInt8) : Nat → β → (UInt8 → β) → β :=
  List.rec (fun _ bad _ => bad) (fun x _ ih o bad k => Nat.casesOn o (k x) fun o => ih o bad k) l
theorem nthU_ok : ∀ {l : List UInt8} {o : Nat} {k : UInt8 → Bool}, nthU l o false k = true → ∃ v, l[o]? = some v ∧ k v = true
  | [], _, _, h => by cases h
  | x :: l, 0, k, h => ⟨x, rfl, h⟩
  | x :: l, o + 1, k, h => by simpa using nthU_ok (show nthU l o false k = true from h)

noncomputable def lIndex (K : Tab) (t : TypeId) (x ix : Operand) : CL :=
  match K.und t with
  | some (.array n e) => match K.inf e with
    | some j => ⟨fun T _ k => (ce K.ng x).go T fun v => (ce K.ng ix).go T fun i => match v, i with
      | .agg cs, .int _ (.ofNat i) => cond (Nat.blt i n) ((cpart K e).go cs (i * j.size) k) false
      | _, _ => false⟩
    | none => CL.none
  | some .string => ⟨fun T _ k => (ce K.ng x).go T fun v => (ce K.ng ix).go T fun i => match v, i with
      | .str s, .int _ (.ofNat i) => nthU s i false fun c => forceN c.toNat fun c => k (.int .u8 (.ofNat c))
      | _, _ => false⟩
  | _ => CL.none
theorem lIndex_good {K : Tab} (hK : K.Ok) (t : TypeId) (x ix : Operand) : CL.Good K (.index t x ix) (lIndex K t x ix) := fun T H k h => by
  unfold lIndex at h
  split at h
  · rename_i n e hs
    split at h
    · rename_i j hj
      obtain ⟨v, hv, h⟩ := ce_ok h
      obtain ⟨i, hi, h⟩ := ce_ok h
      match v, i, h with
      | .agg cs, .int kd (.ofNat i), h =>
        obtain ⟨hlt, h⟩ := cond_true_of h
        have hlt := blt_lt hlt
        obtain ⟨u, hu, hk⟩ := cpart_ok h
        refine ⟨u, fun φ ac w hor hw => ?_, hk⟩
        obtain ⟨xs, hxs, hp⟩ := conc_agg (hor x (by simp [Op.operands]) _ hv)
        have hq := conc_int (hor ix (by simp [Op.operands]) _ hi)
        obtain ⟨y, hy, hr⟩ := part_of hK hu hxs w
        refine ⟨y, hy, fun op ho => ?_⟩
        simp only [execOp, ho]
        refine run_value ?_
        simp [Instr.index, asIntOf, Sem.run_bind, hK.runUnd hs, hp, hq, runSize hK hj, hlt, hr]
    · cases h
  · rename_i hs
    obtain ⟨v, hv, h⟩ := ce_ok h
    obtain ⟨i, hi, h⟩ := ce_ok h
    match v, i, h with
    | .str s, .int kd (.ofNat i), h =>
      obtain ⟨c, hc, h⟩ := nthU_ok h
      simp only [forceN_eq] at h
      refine ⟨_, fun φ ac w hor hw => ⟨_, rfl, fun op ho => ?_⟩, h⟩
      have hp := conc_str (hor x (by simp [Op.operands]) _ hv)
      have hq := conc_int (hor ix (by simp [Op.operands]) _ hi)
      simp only [execOp, ho]
      refine run_value ?_
      have hb : (⟨s.toArray⟩ : ByteArray)[i]? = some c := by
        obtain ⟨hlt, he⟩ := List.getElem?_eq_some_iff.1 hc
        have : i < (⟨s.toArray⟩ : ByteArray).size := by simpa [ByteArray.size] using hlt
        rw [getElem?_pos (⟨s.toArray⟩ : ByteArray) i this]
        congr 1
      simp [Instr.index, asIntOf, Sem.run_bind, hK.runUnd hs, hp, hq, hb]
  · cases h

noncomputable def lExtract (K : Tab) (t : Operand) (i : Nat) : CL := ⟨fun T _ k => (ce K.ng t).go T fun v => match v with
  | .tup l => nthK l i false k
  | _ => false⟩
theorem lExtract_good (K : Tab) (t : Operand) (i : Nat) : CL.Good K (.extract t i) (lExtract K t i) := fun T H k h => by
  obtain ⟨v, hv, h⟩ := ce_ok h
  match v, h with
  | .tup l, h =>
    obtain ⟨u, hu, hk⟩ := nthK_ok h
    refine ⟨u, fun φ ac w hor hw => ?_, hk⟩
    obtain ⟨xs, hxs, hp⟩ := conc_tup (hor t (by simp [Op.operands]) _ hv)
    obtain ⟨y, hy, hc⟩ := concs_get i hxs hu
    exact ⟨y, hc, fun op ho => by simp [execOp, ho, hp, Instr.extract, hy]⟩

def notIface : TypeDesc → Bool
  | .interface _ => false
  | _ => true
noncomputable def lMakeIface (K : Tab) (t : TypeId) (x : Operand) : CL :=
  match K.und t with
  | some d => match notIface d with
    | true => ⟨fun T _ k => (ce K.ng x).go T fun v => k (.ifc t v)⟩
    | false => CL.none
  | none => CL.none
theorem lMakeIface_good {K : Tab} (hK : K.Ok) (t : TypeId) (x : Operand) : CL.Good K (.makeInterface t x) (lMakeIface K t x) := fun T H k h => by
  unfold lMakeIface at h
  split at h
  · rename_i d hd
    split at h
    · rename_i hn
      obtain ⟨v, hv, h⟩ := ce_ok h
      refine ⟨_, fun φ ac w hor hw => ⟨.iface t (ac.eval x), by simp only [conc, hor x (by simp [Op.operands]) _ hv], fun op ho => ?_⟩, h⟩
      simp only [execOp, ho]
      refine run_value ?_
      simp only [Instr.makeInterface, Sem.run_bind, hK.runUnd hd, Result.andThen_ok]
      cases d <;> first | rfl | cases hn
    · cases h
  · cases h

noncomputable def lMakeFunc (K : Tab) (f : Fn) (a b : Array Operand) : CL := ⟨fun T _ k => (ces K.ng a.toList).go T fun x => (ces K.ng b.toList).go T fun y => k (.fn f x y)⟩
theorem lMakeFunc_good (K : Tab) (f : Fn) (a b : Array Operand) : CL.Good K (.makeFunc f a b) (lMakeFunc K f a b) := fun T H k h => by
  obtain ⟨x, hx, h⟩ := ces_ok h
  obtain ⟨y, hy, h⟩ := ces_ok h
  refine ⟨_, fun φ ac w hor hw => ?_, h⟩
  have h1 := evs_conc (l := a.toList) (fun z hz => hor z (by simp [Op.operands] at hz ⊢; exact .inl hz)) hx
  have h2 := evs_conc (l := b.toList) (fun z hz => hor z (by simp [Op.operands] at hz ⊢; exact .inr hz)) hy
  refine ⟨.func f (a.toList.map ac.eval).toArray (b.toList.map ac.eval).toArray, by simp only [conc, h1, h2], fun op ho => ?_⟩
  simp only [execOp, ho]
  refine run_value ?_
  simp [Instr.makeFunc, ← Array.toList_map]

end GoX
