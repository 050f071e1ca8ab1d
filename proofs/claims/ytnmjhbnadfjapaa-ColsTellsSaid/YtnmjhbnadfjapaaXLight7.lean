/-
  THE OPERATIONS THAT CHANGE NO MEMORY: built-in functions; and all of them together. No program is named here.
-/
import Derived.Test.YtnmjhbnadfjapaaXLight6
namespace GoX
open Go

theorem exec_builtin {a : Act} {o : Oper} {c : Call} {b : Builtin} (ho : o.op = .call c) (hc : c.callee = .builtin b) :
    execOp a.eval o = builtin b c.argTypes o.type (c.args.map fun | .const _ => true | _ => false) (c.args.map a.eval) := by
  simp only [execOp, ho, resolve, hc]
  rfl

noncomputable def lLen (K : Tab) (c : Call) : CL :=
  match c.argTypes.toList, c.args.toList with
  | t :: _, [x] => match K.und t with
    | some .string => ⟨fun T _ k => (ce K.ng x).go T fun v => match v with
      | .str s => forceN s.length fun n => k (.int .i64 (.ofNat n))
      | _ => false⟩
    | some (.slice _) => ⟨fun T _ k => (ce K.ng x).go T fun v => match v with
      | .sl _ n _ => k (.int .i64 (.ofNat n))
      | _ => false⟩
    | some (.map _ _) => ⟨fun T H k => (ce K.ng x).go T fun v => match v with
      | .map none => k (.int .i64 (.ofNat 0))
      | .map (some r) => Trie.getK (bits r) H.t false fun blk => match blk with
        | .map es _ => forceN es.length fun n => k (.int .i64 (.ofNat n))
        | _ => false
      | _ => false⟩
    | some (.array n _) => ⟨fun _ _ k => k (.int .i64 (.ofNat n))⟩
    | _ => CL.none
  | _, _ => CL.none

theorem args_one {c : Call} {x : Operand} (h : c.args.toList = [x]) (f : Operand → Value) : c.args.map f = #[f x] := by
  apply Array.ext'; simp [h]
theorem types_get {c : Call} {t : TypeId} {l : List TypeId} (h : c.argTypes.toList = t :: l) : c.argTypes[0]? = some t := by
  rw [← Array.getElem?_toList, h]; rfl

theorem lLen_good {K : Tab} (hK : K.Ok) (c : Call) (hc : c.callee = .builtin .len) : CL.Good K (.call c) (lLen K c) := fun T H k h => by
  unfold lLen at h
  split at h
  · rename_i t l x ht hx
    have hm : x ∈ (Op.call c).operands.toList := by simp [Op.operands, Call.operands, hc, hx]
    have ht0 := types_get ht
    have hfin : ∀ (φ : Phi) (ac : Act) (w : World) (n : Nat), (Builtin.len_ c.argTypes 0 #[ac.eval x]).run K.P w = .ok (goInt n) w →
        ∀ o : Oper, o.op = .call c → (execOp ac.eval o).run K.P w = .ok (.value (.int .i64 (Int.ofNat n))) w := by
      intro φ ac w n hr o ho
      rw [exec_builtin ho hc, args_one hx]
      exact run_value hr
    split at h
    · rename_i hs
      obtain ⟨v, hv, h⟩ := ce_ok h
      match v, h with
      | .str s, h =>
        simp only [forceN_eq] at h
        refine ⟨_, fun φ ac w hor hw => ⟨_, rfl, hfin φ ac w _ ?_⟩, h⟩
        have hp := conc_str (hor x hm _ hv)
        have hsz : (⟨s.toArray⟩ : ByteArray).size = s.length := by simp [ByteArray.size]
        simp [Builtin.len_, ht0, hK.runUnd hs, hp, hsz]
    · rename_i e hs
      obtain ⟨v, hv, h⟩ := ce_ok h
      match v, h with
      | .sl a n cp, h =>
        refine ⟨_, fun φ ac w hor hw => ⟨_, rfl, hfin φ ac w _ ?_⟩, h⟩
        obtain ⟨p, cap, hp⟩ := conc_sl_len (hor x hm _ hv)
        simp [Builtin.len_, ht0, hK.runUnd hs, hp]
    · rename_i e e' hs
      obtain ⟨v, hv, h⟩ := ce_ok h
      match v, h with
      | .map none, h =>
        refine ⟨_, fun φ ac w hor hw => ⟨_, rfl, hfin φ ac w 0 ?_⟩, h⟩
        have hp : ac.eval x = .map none := by have := hor x hm _ hv; simpa [conc] using this.symm
        simp [Builtin.len_, ht0, hK.runUnd hs, hp]
      | .map (some b), h =>
        obtain ⟨blk, hb, h⟩ := getK_ok h
        match blk, h with
        | .map es clock, h =>
          simp only [forceN_eq] at h
          refine ⟨_, fun φ ac w hor hw => ⟨_, rfl, hfin φ ac w _ ?_⟩, h⟩
          obtain ⟨L, hL, hp⟩ := conc_map (hor x hm _ hv)
          obtain ⟨xs, hxs, hheap⟩ := map_real hw hb hL
          have hlen : xs.length = es.length := by
            clear hheap hb h
            induction es generalizing xs with
            | nil => cases hxs; rfl
            | cons e es ih => obtain ⟨_, _, y, _, _, h3, rfl⟩ := concEs_cons hxs; simp [ih y h3]
          simp [Builtin.len_, ht0, hK.runUnd hs, hp, run_getObj hheap (by simp), hlen]
    · rename_i n e hs
      refine ⟨_, fun φ ac w hor hw => ⟨_, rfl, hfin φ ac w _ ?_⟩, h⟩
      simp [Builtin.len_, ht0, hK.runUnd hs]
    · cases h
  · cases h

noncomputable def foldK (less : Bool) (l : List AV) : AV → (AV → Bool) → Bool :=
  List.rec (fun x k => k x) (fun y _ ih x k => match x, y with
    | .int i m, .int _ n => Bool.casesOn less (cond (leI n m) (ih (.int i m) k) (ih (.int i n) k)) (cond (leI m n) (ih (.int i m) k) (ih (.int i n) k))
    | _, _ => false) l
noncomputable def lMM (K : Tab) (less : Bool) (c : Call) : CL :=
  match c.args.toList with
  | x :: l => ⟨fun T _ k => (ce K.ng x).go T fun v => (ces K.ng l).go T fun vs => foldK less vs v k⟩
  | [] => CL.none
theorem foldK_ok {P : Program} {less : Bool} : ∀ {l : List AV} {v : AV} {k : AV → Bool}, foldK less l v k = true →
    ∃ r, (∀ (φ : Phi) (w : World) (x : Value) (xs : List Value), conc φ v = some x → concs φ l = some xs →
      ∃ y, conc φ r = some y ∧ (xs.foldlM (if less then Builtin.min2 else Builtin.max2) x : Sem Value).run P w = .ok y w) ∧ k r = true
  | [], v, k, h => ⟨v, fun φ w x xs hx hxs => by rw [concs_nil hxs]; exact ⟨x, hx, rfl⟩, h⟩
  | y :: l, v, k, h => by
    match v, y, h with
    | .int i m, .int j n, h =>
      have key : ∃ q, foldK less l (.int i q) k = true ∧ q = (if less then (if n < m then n else m) else (if n > m then n else m)) := by
        cases less with
        | false =>
          have h' : cond (leI n m) (foldK false l (.int i m) k) (foldK false l (.int i n) k) = true := h
          rw [leI_eq] at h'
          by_cases hc : n ≤ m
          · rw [decide_eq_true hc, cond_true] at h'; exact ⟨m, h', by simp; omega⟩
          · rw [decide_eq_false hc, cond_false] at h'; exact ⟨n, h', by simp; omega⟩
        | true =>
          have h' : cond (leI m n) (foldK true l (.int i m) k) (foldK true l (.int i n) k) = true := h
          rw [leI_eq] at h'
          by_cases hc : m ≤ n
          · rw [decide_eq_true hc, cond_true] at h'; exact ⟨m, h', by simp; omega⟩
          · rw [decide_eq_false hc, cond_false] at h'; exact ⟨n, h', by simp; omega⟩
      obtain ⟨q, h, hq⟩ := key
      obtain ⟨r, hr, hk⟩ := foldK_ok (P := P) h
      refine ⟨r, fun φ w x xs hx hxs => ?_, hk⟩
      obtain ⟨z, zs, hz, hzs, rfl⟩ := concs_cons hxs
      obtain rfl := conc_int hx
      obtain rfl := conc_int hz
      obtain ⟨y, hy, hrun⟩ := hr φ w (.int i q) zs rfl hzs
      refine ⟨y, hy, ?_⟩
      rw [List.foldlM_cons]
      cases less with
      | false => simp only [if_false, Bool.false_eq_true, Builtin.max2, Sem.run_bind, Sem.run_pure, Result.andThen_ok] at hq hrun ⊢; rw [← hq]; exact hrun
      | true => simp only [if_true, Builtin.min2, Sem.run_bind, Sem.run_pure, Result.andThen_ok] at hq hrun ⊢; rw [← hq]; exact hrun
theorem lMM_good {K : Tab} (c : Call) (less : Bool) (hc : c.callee = .builtin (if less then .min else .max)) : CL.Good K (.call c) (lMM K less c) := fun T H k h => by
  unfold lMM at h
  split at h
  · rename_i x l hx
    obtain ⟨v, hv, h⟩ := ce_ok h
    obtain ⟨vs, hvs, h⟩ := ces_ok h
    obtain ⟨r, hr, hk⟩ := foldK_ok (P := K.P) h
    refine ⟨r, fun φ ac w hor hw => ?_, hk⟩
    have hm : ∀ z, z ∈ x :: l → z ∈ (Op.call c).operands.toList := fun z hz => by rw [← hx] at hz; simpa [Op.operands, Call.operands, hc] using hz
    obtain ⟨y, hy, hrun⟩ := hr φ w _ _ (hor x (hm x (by simp)) _ hv) (evs_conc (fun z hz => hor z (hm z (by simp [hz]))) hvs)
    refine ⟨y, hy, fun o ho => ?_⟩
    rw [exec_builtin ho hc]
    have hargs : (c.args.map ac.eval).toList = ac.eval x :: l.map ac.eval := by simp [hx]
    cases less with
    | false =>
      show (do pure (Next.value (← Builtin.max_ c.argTypes o.type (c.args.map ac.eval))) : Sem Next).run K.P w = _
      refine run_value ?_
      simp only [Builtin.max_, hargs]
      exact hrun
    | true =>
      show (do pure (Next.value (← Builtin.min_ c.argTypes o.type (c.args.map ac.eval))) : Sem Next).run K.P w = _
      refine run_value ?_
      simp only [Builtin.min_, hargs]
      exact hrun
  · cases h

/-! ### All of them -/
theorem conc_sl_exact {φ : Phi} {a : Option (Nat × Nat)} {n c : Nat} {r : Value} (h : conc φ (.sl a n (.exact c)) = some r) : ∃ p, r = .slice p n c := by
  simp only [conc, concSl] at h
  split at h
  · cases h; exact ⟨_, rfl⟩
  · cases h
noncomputable def lCap (K : Tab) (c : Call) : CL :=
  match c.argTypes.toList, c.args.toList with
  | t :: _, [x] => match K.und t with
    | some (.slice _) => ⟨fun T _ k => (ce K.ng x).go T fun v => match v with
      | .sl _ _ (.exact n) => k (.int .i64 (.ofNat n))
      | _ => false⟩
    | _ => CL.none
  | _, _ => CL.none
theorem lCap_good {K : Tab} (hK : K.Ok) (c : Call) (hc : c.callee = .builtin .cap) : CL.Good K (.call c) (lCap K c) := fun T H k h => by
  unfold lCap at h
  split at h
  · rename_i t l x ht hx
    have hm : x ∈ (Op.call c).operands.toList := by simp [Op.operands, Call.operands, hc, hx]
    have ht0 := types_get ht
    have hfin : ∀ (φ : Phi) (ac : Act) (w : World) (n : Nat), (Builtin.cap_ c.argTypes 0 #[ac.eval x]).run K.P w = .ok (goInt n) w →
        ∀ o : Oper, o.op = .call c → (execOp ac.eval o).run K.P w = .ok (.value (.int .i64 (Int.ofNat n))) w := by
      intro φ ac w n hr o ho
      rw [exec_builtin ho hc, args_one hx]
      exact run_value hr
    split at h
    · rename_i e hs
      obtain ⟨v, hv, h⟩ := ce_ok h
      match v, h with
      | .sl a n (.exact cp), h =>
        refine ⟨_, fun φ ac w hor hw => ⟨_, rfl, hfin φ ac w _ ?_⟩, h⟩
        obtain ⟨p, hp⟩ := conc_sl_exact (hor x hm _ hv)
        simp [Builtin.cap_, ht0, hK.runUnd hs, hp]
    · cases h
  · cases h

/-- 0: an operation that changes no memory; 1: one that lays a new block and asks nothing of memory; 2: any other. -/
noncomputable def kindOf (K : Tab) (op : Op) : Nat :=
  match op with
  | .move _ | .assign _ | .pick .. | .build .. | .load .. | .nilCheck _ | .binOp .. | .unOp .. | .makeInterface .. | .makeFunc .. | .slice .. | .fieldAddr ..
  | .field .. | .indexAddr .. | .index .. | .lookup .. | .typeAssert .. | .extract .. => 0
  | .alloc _ | .box .. | .buildSlice .. | .makeMap .. | .makeSlice .. => 1
  | .convert _ dst _ => match K.und dst with
    | some (.int _) => 0
    | _ => 2
  | .call c => match c.callee with
    | .builtin .len | .builtin .cap | .builtin .min | .builtin .max => 0
    | _ => 2
  | _ => 2

/-- Whether what an operation gives hangs on memory. -/
def asksMem (op : Op) : Bool :=
  match op with
  | .load .. => true
  | .lookup .. => true
  | .call _ => true
  | _ => false

noncomputable def cl (K : Tab) (op : Op) : CL :=
  match op with
  | .move x => lMove K x
  | .assign x => lMove K x
  | .pick c a b => lPick K c a b
  | .build t parts => lBuild K t parts
  | .load t x => lLoad K t x
  | .nilCheck x => lNilCheck K x
  | .binOp op t x y _ => lBin K op t x y
  | .unOp op _ x => lUn K op x
  | .convert src dst x => lConv K src dst x
  | .makeInterface t x => lMakeIface K t x
  | .makeFunc f a b => lMakeFunc K f a b
  | .slice t x lo hi mx => lSlice K t x lo hi mx
  | .fieldAddr s x i => lFieldAddr K s x i
  | .field t x i => lField K t x i
  | .indexAddr t x ix => lIndexAddr K t x ix
  | .index t x ix => lIndex K t x ix
  | .lookup t x ix ok => lLookup K t x ix ok
  | .typeAssert x _ asserted ok => lAssert K x asserted ok
  | .extract t i => lExtract K t i
  | .call c => match c.callee with
    | .builtin .len => lLen K c
    | .builtin .cap => lCap K c
    | .builtin .min => lMM K true c
    | .builtin .max => lMM K false c
    | _ => CL.none
  | _ => CL.none

theorem cl_good {K : Tab} (hK : K.Ok) (op : Op) : CL.Good K op (cl K op) := by
  cases op <;> simp only [cl]
  case move x => exact lMove_good K x
  case assign x => exact lAssign_good K x
  case pick c a b => exact lPick_good K c a b
  case build t parts => exact lBuild_good hK t parts
  case load t x => exact lLoad_good hK t x
  case nilCheck x => exact lNilCheck_good K x
  case binOp op t x y u => exact lBin_good hK op t x y u
  case unOp op t x => exact lUn_good K op t x
  case convert src dst x => exact lConv_good hK src dst x
  case makeInterface t x => exact lMakeIface_good hK t x
  case makeFunc f a b => exact lMakeFunc_good K f a b
  case slice t x lo hi mx => exact lSlice_good hK t x lo hi mx
  case fieldAddr s x i => exact lFieldAddr_good hK s x i
  case field t x i => exact lField_good hK t x i
  case indexAddr t x ix => exact lIndexAddr_good hK t x ix
  case index t x ix => exact lIndex_good hK t x ix
  case lookup t x ix ok => exact lLookup_good hK t x ix ok
  case typeAssert x u asserted ok => exact lAssert_good hK x u asserted ok
  case extract t i => exact lExtract_good K t i
  case call c =>
    split
    · rename_i hc; exact lLen_good hK c hc
    · rename_i hc; exact lCap_good hK c hc
    · rename_i hc; exact lMM_good c true hc
    · rename_i hc; exact lMM_good c false hc
    · exact CL.none_good K _
  all_goals exact CL.none_good K _

end GoX
