/-
  ALL OPERATIONS BUT CALLS, together. No program is named here.
-/
import Derived.Test.YtnmjhbnadfjapaaXHeavyA
namespace GoX
open Go

/-- An operation that changes no memory, as one that may. -/
noncomputable def CL.heavy (c : CL) : CH := ⟨fun T H k => c.go T H fun v => k v H⟩
theorem CL.heavy_good {K : Tab} {op : Op} {c : CL} (h : CL.Good K op c) : CH.Good K op c.heavy := fun T H k hk => by
  obtain ⟨v, hv, h'⟩ := h T H _ hk
  exact ⟨v, H, hv.heavy, h'⟩

/-- One that lays a block. -/
noncomputable def CA.heavy (c : CA) : CH := ⟨fun T H k => c.go T H.next fun v blk => forceN (H.next + 1) fun n => Trie.putK (bits H.next) H.t (some blk) fun t => k v ⟨n, t⟩⟩
theorem CA.heavy_good {K : Tab} {op : Op} {c : CA} (h : CA.Good K op c) : CH.Good K op c.heavy := fun T H k hk => by
  obtain ⟨v, blk, hv, h'⟩ := h T H.next _ hk
  rw [forceN_eq, Trie.putK_eq] at h'
  exact ⟨v, _, hv.heavy, h'⟩

/-- clear, of a slice. -/
noncomputable def hClear (K : Tab) (c : Call) : CH :=
  match c.argTypes.toList, c.args.toList with
  | t :: _, [d] => match K.und t with
    | some (.slice e) => match K.inf e, K.zero e with
      | some _, some z => ⟨fun T H k => (ce K.ng d).go T fun dv => match dv with
        | .sl _ 0 _ => k (.tup []) H
        | .sl (some a) (.succ n) _ => repK z.cells (.succ n) [] fun cs => putCellsK H a cs fun H => k (.tup []) H
        | _ => false⟩
      | _, _ => CH.none
    | _ => CH.none
  | _, _ => CH.none
theorem hClear_good {K : Tab} (hK : K.Ok) (c : Call) (hc : c.callee = .builtin .clear) : CH.Good K (.call c) (hClear K c) := fun T H k h => by
  unfold hClear at h
  split at h
  · rename_i t l d ht hx
    have hmd : d ∈ (Op.call c).operands.toList := by simp [Op.operands, Call.operands, hc, hx]
    have ht0 := types_get ht
    split at h
    · rename_i e hs
      split at h
      · rename_i i z hi hz
        obtain ⟨dv, hdv, h⟩ := ce_ok h
        have hrun : ∀ (φ : Phi) (ac : Act) (w w' : World) (p : Option Addr) (n cp : Nat) (zv : Value) (xs : List Value), i.zero = some zv → zv.cells = xs.toArray → ac.eval d = .slice p n cp →
            (match n with | 0 => w' = w | n + 1 => ∃ a, p = some a ∧ (storeCells a (rep xs (n + 1))).run K.P w = .ok () w') →
            ∀ o : Oper, o.op = .call c → (execOp ac.eval o).run K.P w = .ok (.value (.tuple #[])) w' := by
          intro φ ac w w' p n cp zv xs hzv hcells hp hst o ho
          rw [exec_builtin ho hc, args_one hx, hp]
          refine run_value' ?_
          match n, hst with
          | 0, hst =>
            subst hst
            cases p <;> simp only [Builtin.clear_, ht0, Sem.run_bind, hK.runUnd hs, Result.andThen_ok, List.getElem?_toArray, List.getElem?_cons_zero, Sem.run_pure] <;> rfl
          | n + 1, ⟨a, ha, hst'⟩ =>
            subst ha
            have hzr : (zeroValue e).run K.P w = .ok zv w := by simp [zeroValue, hK.runInf hi, hzv]
            have hrow : (Builtin.zeroCells zv.cells (n + 1)).toList = rep xs (n + 1) := by
              rw [Builtin.zeroCells, hcells]
              have := rep_range xs (n + 1)
              simp only [List.size_toArray] at this ⊢
              rw [this]
            simp only [Builtin.clear_, ht0, Sem.run_bind, hK.runUnd hs, Result.andThen_ok, List.getElem?_toArray, List.getElem?_cons_zero, Sem.run_pure, hzr, hrow, hst']
        match dv, hdv, h with
        | .sl a 0 cap, hdv, h =>
          refine ⟨_, H, ⟨Nat.le_refl _, fun φ ac w hor hg hw hfr => ?_⟩, h⟩
          have hdx := hor d hmd _ hdv
          obtain ⟨p, cp, hp⟩ := conc_sl_len hdx
          obtain ⟨zv, xs, hzv, _, hxs, hcells⟩ := zero_fact hK hi hz φ
          exact ⟨φ, _, w, Goes.refl hw, rfl, fun o ho next Q hq => wp_value (hrun φ ac w w p 0 cp zv xs hzv hcells hp rfl o ho) hq⟩
        | .sl (some (b, o)) (n + 1) cap, hdv, h =>
          dsimp only at h
          rw [repK_eq, List.append_nil] at h
          obtain ⟨cl, e', kd, H', hb, hk1, hone, hle, hget, hnext, hk⟩ := putCellsK_ok h
          refine ⟨_, H', ⟨by rw [hnext]; exact Nat.le_refl _, fun φ ac w hor hg hw hfr => ?_⟩, hk⟩
          have hdx := hor d hmd _ hdv
          obtain ⟨zv, xs, hzv, _, hxs, hcells⟩ := zero_fact hK hi hz φ
          rw [hget, hnext]
          obtain ⟨L, cp, hL, hp⟩ := conc_sl (by omega) hdx
          obtain ⟨w', hst, hgo⟩ := store_cells (P := K.P) H.next hw hb hk1 hL hle (concs_rep hxs (n + 1)) hone
          exact ⟨φ, _, w', hgo, rfl, fun op ho next Q hq => wp_value (hrun φ ac w w' _ (n + 1) cp zv xs hzv hcells hp ⟨_, rfl, hst⟩ op ho) hq⟩
        | .sl none (n + 1) cap, hdv, h => cases h
      · cases h
    · cases h
  · cases h

/-- Any operation but a call of a function: 'det' forbids several outcomes. -/
noncomputable def ch (K : Tab) (det : Bool) (op : Op) : CH :=
  match op with
  | .alloc _ | .box .. | .buildSlice .. | .makeMap .. | .makeSlice .. => (ca K op).heavy
  | .store t x y => hStore K t x y
  | .mapUpdate t m k x => hMapPut K t m k x
  | .insert t m k x => hMapPut K t m k x
  | .mapEntry t m k => hMapEntry K t m k
  | .entryStore _ m s x => hEntryStore K m s x
  | .range t x => hRange K t x
  | .next it str => match str with
    | true => hNextS K it
    | false => hNextM K det it
  | .entry it => hEntry K it
  | .convert src dst x => match K.und dst with
    | some (.int _) => (cl K op).heavy
    | _ => hConvert K src dst x
  | .call c => match c.callee with
    | .builtin .delete => hDelete K c
    | .builtin .copy => hCopy K c
    | .builtin .append => hApp K c
    | .builtin .clear => hClear K c
    | .builtin _ => (cl K op).heavy
    | _ => CH.none
  | _ => (cl K op).heavy

theorem ch_all {K : Tab} (hK : K.Ok) (det : Bool) (op : Op) : CH.All K det op (ch K det op) := by
  have hA := (CA.heavy_good (ca_good hK op)).all det
  have hL := (CL.heavy_good (cl_good hK op)).all det
  cases op <;> simp only [ch] <;> try first | exact hA | exact hL
  case store t x y => exact (hStore_good hK t x y).all det
  case mapUpdate t m k x => exact (hMapUpdate_good hK t m k x).all det
  case insert t m k x => exact (hInsert_good hK t m k x).all det
  case mapEntry t m k => exact (hMapEntry_good hK t m k).all det
  case entryStore t m s x => exact (hEntryStore_good t m s x).all det
  case range t x => exact (hRange_good hK t x).all det
  case entry it => exact (hEntry_good it).all det
  case next it str =>
    cases str with
    | true => exact (hNextS_good it).all det
    | false => exact hNextM_all det it
  case convert src dst x =>
    split
    · exact hL
    · exact (hConvert_good hK src dst x).all det
  case call c =>
    split
    · rename_i hc; exact (hDelete_good hK c hc).all det
    · rename_i hc; exact (hCopy_good hK c hc).all det
    · rename_i hc; exact (hApp_good hK c hc).all det
    · rename_i hc; exact (hClear_good hK c hc).all det
    · exact hL
    · exact (CH.none_good K _).all det

end GoX
