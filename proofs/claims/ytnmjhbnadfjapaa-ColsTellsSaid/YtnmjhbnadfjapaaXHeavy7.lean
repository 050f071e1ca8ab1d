/-
  THE OPERATIONS THAT CHANGE MEMORY: copies, appends, conversions. No program is named here.
-/
import Derived.Test.YtnmjhbnadfjapaaXHeavy6
namespace GoX
open Go

/-! ### The entry that a step came to -/
noncomputable def findB (l : List Ent) (n : Nat) : (Ent → Bool) → Bool :=
  List.rec (fun _ => false) (fun e _ ih k => cond (Nat.beq e.born n) (k e) (ih k)) l
theorem findB_ok {n : Nat} : ∀ {l : List Ent} {k : Ent → Bool}, findB l n k = true →
    ∃ e, k e = true ∧ ∀ (φ : Phi) (xs : List MapEntry), concEs φ l = some xs → ∃ x, xs.find? (fun e => e.born == n) = some x ∧ conc φ e.key = some x.key ∧ conc φ e.val = some x.val
  | [], k, h => by cases h
  | e :: l, k, h => by
    have h' : cond (Nat.beq e.born n) (k e) (findB l n k) = true := h
    cases hb : Nat.beq e.born n with
    | true =>
      rw [hb, cond_true] at h'
      have hb' := beq_eq' hb
      refine ⟨e, h', fun φ xs hx => ?_⟩
      obtain ⟨k0, v0, y, h1, h2, _, rfl⟩ := concEs_cons hx
      exact ⟨⟨k0, v0, e.born⟩, by simp [hb'], h1, h2⟩
    | false =>
      rw [hb, cond_false] at h'
      obtain ⟨e', h2, h3⟩ := findB_ok h'
      refine ⟨e', h2, fun φ xs hx => ?_⟩
      obtain ⟨_, _, y, _, _, g, rfl⟩ := concEs_cons hx
      have hne : ¬ e.born = n := fun e' => by rw [e'] at hb; simp at hb
      obtain ⟨x, hx1, hx2⟩ := h3 φ y g
      exact ⟨x, by simp [hne, hx1], hx2⟩
noncomputable def lastN (l : List Nat) : (Nat → Bool) → Bool := match l.getLast? with
  | some n => fun k => k n
  | none => fun _ => false
noncomputable def hEntry (K : Tab) (it : Operand) : CH := ⟨fun T H k => (ce K.ng it).go T fun v => match v with
  | .ptr (some (r, 0)) => Trie.getK (bits r) H.t false fun blk => match blk with
    | .mapIter (some m) _ seen stepped => Trie.getK (bits m) H.t false fun blk => match blk with
      | .map es clock => cond (Nat.beq clock stepped) (lastN seen fun n => findB es n fun e => k (.tup [e.key, e.val]) H) false
      | _ => false
    | _ => false
  | _ => false⟩
theorem hEntry_good {K : Tab} (it : Operand) : CH.Good K (.entry it) (hEntry K it) := fun T H k h => by
  obtain ⟨v, hv, h⟩ := ce_ok h
  match v, h with
  | .ptr (some (r, 0)), h =>
    obtain ⟨blk, hb, h⟩ := getK_ok h
    match blk, h with
    | .mapIter (some m) since seen stepped, h =>
      obtain ⟨blk, hm, h⟩ := getK_ok h
      match blk, h with
      | .map es clock, h =>
        obtain ⟨hcl, h⟩ := cond_true_of h
        have hcl := beq_eq' hcl
        unfold lastN at h
        cases hl : seen.getLast? with
        | none => rw [hl] at h; cases h
        | some n =>
          rw [hl] at h
          obtain ⟨e, hk, he⟩ := findB_ok h
          refine ⟨_, H, ⟨Nat.le_refl _, fun φ a w hor hg hw hfr => ?_⟩, hk⟩
          obtain ⟨L, hL, hp⟩ := conc_ptr (hor it (by simp [Op.operands]) _ hv)
          obtain ⟨o, ho, M, hM, rfl, h0⟩ := hw.real r _ L hb hL
          obtain ⟨xs, hxs, hheap⟩ := map_real hw hm hM
          obtain ⟨x, hx, hkx, hvx⟩ := he φ xs hxs
          refine ⟨φ, _, w, Goes.refl hw, conc_tup_mk (concs_cons_mk hkx (concs_cons_mk hvx rfl)), fun op hop next Q hq => wp_value ?_ hq⟩
          have hback : seen.toArray.back? = some n := by simp [hl]
          have hfind : xs.toArray.find? (fun e => e.born == n) = some x := by simpa using hx
          have hne : (clock != stepped) = false := by simp [hcl]
          simp only [execOp, hop]
          simp only [Sem.run_bind, Instr.entry, hp, h0, run_getObj ho (by simp), Result.andThen_ok, hback, run_getObj hheap (by simp), hne, Bool.false_eq_true, if_false, hfind, Sem.run_pure]

/-! ### What is copied -/
noncomputable def takeU (s : List UInt8) : Nat → (List AV → Bool) → Bool :=
  List.rec (fun _ k => k []) (fun c _ ih n k => Nat.casesOn n (k []) fun n => forceN c.toNat fun c => ih n fun r => k (.int .u8 (.ofNat c) :: r)) s
def u8V (c : UInt8) : AV := .int .u8 (.ofNat c.toNat)
theorem takeU_eq : ∀ (s : List UInt8) (n : Nat) (k : List AV → Bool), takeU s n k = k ((s.take n).map u8V)
  | [], n, k => by cases n <;> rfl
  | c :: s, 0, k => rfl
  | c :: s, n + 1, k => by
    show forceN c.toNat (fun c => takeU s n fun r => k (.int .u8 (.ofNat c) :: r)) = _
    rw [forceN_eq, takeU_eq]; rfl
theorem concs_u8 (φ : Phi) : ∀ (s : List UInt8), concs φ (s.map u8V) = some (s.map fun c => Value.int .u8 c.toNat)
  | [] => rfl
  | _c :: s => concs_cons_mk rfl (concs_u8 φ s)

/-- The cells of the n first elements of a slice or a text. -/
noncomputable def srcK (H : AH) (size : Nat) (x : AV) (n : Nat) (k : List AV → Bool) : Bool :=
  match x with
  | .sl none _ _ => Nat.casesOn n (k []) fun _ => false
  | .sl (some a) len _ => Nat.casesOn n (k []) fun m => cond (Nat.ble (m + 1) len) (Trie.getK (bits a.1) H.t false fun blk => match blk with
    | .cells c _ _ => subK c a.2 ((m + 1) * size) false k
    | _ => false) false
  | .str s => cond (Nat.ble n s.length) (takeU s n k) false
  | _ => false
/-- How many there are. -/
noncomputable def lenK (x : AV) (k : Nat → Bool) : Bool :=
  match x with
  | .sl _ n _ => k n
  | .str s => forceN s.length k
  | _ => false
theorem lenK_ok {x : AV} {k : Nat → Bool} (h : lenK x k = true) : ∃ n, (∀ (φ : Phi) (v : Value) (P : Program) (w : World), conc φ x = some v → (Builtin.lenOf v).run P w = .ok n w) ∧ k n = true := by
  match x, h with
  | .sl a n c, h =>
    refine ⟨n, fun φ v P w hv => ?_, h⟩
    obtain ⟨_, _, rfl⟩ := conc_sl_len hv
    rfl
  | .str s, h =>
    simp only [lenK, forceN_eq] at h
    refine ⟨s.length, fun φ v P w hv => ?_, h⟩
    obtain rfl := conc_str hv
    have hsz : (⟨s.toArray⟩ : ByteArray).size = s.length := by simp [ByteArray.size]
    simp only [Builtin.lenOf, hsz]; rfl
theorem srcK_ok {H : AH} {size : Nat} {x : AV} {n : Nat} {k : List AV → Bool} (h : srcK H size x n k = true) (hs : (∃ s, x = .str s) → size = 1) :
    ∃ r, r.length = n * size ∧ (∀ (φ : Phi) (v : Value) (P : Program) (w : World), WR φ H.get w → conc φ x = some v → ∃ xs, concs φ r = some xs ∧ (Builtin.firstCells size n v).run P w = .ok xs.toArray w) ∧ k r = true := by
  match x, h with
  | .sl none len c, h =>
    cases n with
    | zero =>
      refine ⟨[], by simp, fun φ v P w hw hv => ⟨[], rfl, ?_⟩, h⟩
      simp only [conc] at hv
      cases c with
      | exact c => cases hv; rfl
      | opened _ => cases hv
      | edge _ _ => cases hv
    | succ n => cases h
  | .sl (some (b, o)) len c, h =>
    cases n with
    | zero =>
      refine ⟨[], by simp, fun φ v P w hw hv => ⟨[], rfl, ?_⟩, h⟩
      obtain ⟨a, m, cap, rfl⟩ := conc_sl_some hv
      simp only [Builtin.firstCells, Nat.zero_mul]; rfl
    | succ m =>
      obtain ⟨hle, h⟩ := cond_true_of h
      obtain ⟨blk, hb, h⟩ := getK_ok h
      match blk, h with
      | .cells cl e kd, h =>
        obtain ⟨r, h1, h2, h3⟩ := subK_ok h
        refine ⟨r, h1, fun φ v P w hw hv => ?_, h3⟩
        have hle := ble_le hle
        obtain ⟨L, cap, hL, rfl⟩ := conc_sl (by omega) hv
        obtain ⟨cs, hcs, hc⟩ := cell_real hw hb hL
        obtain ⟨xs, g1, g2, g3⟩ := sub_conc hcs h1 h2
        refine ⟨xs, g1, ?_⟩
        simp only [Builtin.firstCells, ← g2]
        exact run_loadCells_list w _ xs (fun j y hj => by rw [add_eq, Nat.add_assoc]; exact hc _ y (g3 j y hj))
  | .str s, h =>
    obtain ⟨hle, h'⟩ := cond_true_of h
    have hle := ble_le hle
    rw [takeU_eq] at h'
    have h1 := hs ⟨s, rfl⟩
    refine ⟨(s.take n).map u8V, by rw [h1]; simp; omega, fun φ v P w hw hv => ⟨_, concs_u8 φ (s.take n), ?_⟩, h'⟩
    obtain rfl := conc_str hv
    simp only [Builtin.firstCells, extract_mk, List.drop_zero]
    simp

noncomputable def isU8 (K : Tab) (e : TypeId) (i : TypeInfo) : Bool := match K.und e with
  | some (.int .u8) => Nat.beq i.size 1
  | _ => false

noncomputable def notStr (x : AV) : Bool := match x with
  | .str _ => false
  | _ => true

noncomputable def hCopy (K : Tab) (c : Call) : CH :=
  match c.argTypes.toList, c.args.toList with
  | t :: _, [d, s] => match K.und t with
    | some (.slice e) => match K.inf e with
      | some i => ⟨fun T H k => (ce K.ng d).go T fun dv => (ce K.ng s).go T fun sv => match dv with
        | .sl base dl _ => lenK sv fun n => forceN (Nat.min n dl) fun n => cond (notStr sv || Nat.beq i.size 1) (srcK H i.size sv n fun cs => match base with
          | some a => putRowK H a cs fun H => k (.int .i64 (.ofNat n)) H
          | none => k (.int .i64 (.ofNat n)) H) false
        | _ => false⟩
      | none => CH.none
    | _ => CH.none
  | _, _ => CH.none
theorem hCopy_good {K : Tab} (hK : K.Ok) (c : Call) (hc : c.callee = .builtin .copy) : CH.Good K (.call c) (hCopy K c) := fun T H k h => by
  unfold hCopy at h
  split at h
  · rename_i t l d s ht hx
    have hmd : d ∈ (Op.call c).operands.toList := by simp [Op.operands, Call.operands, hc, hx]
    have hms : s ∈ (Op.call c).operands.toList := by simp [Op.operands, Call.operands, hc, hx]
    have ht0 := types_get ht
    split at h
    · rename_i e hs
      split at h
      · rename_i i hi
        obtain ⟨dv, hdv, h⟩ := ce_ok h
        obtain ⟨sv, hsv, h⟩ := ce_ok h
        match dv, h with
        | .sl base dl cap, h =>
          obtain ⟨n0, hn0, h⟩ := lenK_ok h
          rw [forceN_eq] at h
          obtain ⟨hstr, h⟩ := cond_true_of h
          obtain ⟨r, hrl, hr, h⟩ := srcK_ok h (by
            rintro ⟨s0, rfl⟩
            simpa [notStr] using hstr)
          have hrun : ∀ (φ : Phi) (ac : Act) (w w' : World), OR K.ng φ T ac (Op.call c).operands.toList → WR φ H.get w → ∀ (p : Option Addr) (cp : Nat) (xs : List Value), ac.eval d = .slice p dl cp →
              (Builtin.firstCells i.size (Nat.min n0 dl) (ac.eval s)).run K.P w = .ok xs.toArray w →
              (match p with | some a => (storeCells a xs).run K.P w = .ok () w' | none => w' = w) →
              ∀ o : Oper, o.op = .call c → (execOp ac.eval o).run K.P w = .ok (.value (.int .i64 (Int.ofNat (Nat.min n0 dl)))) w' := by
            intro φ ac w w' hor hw p cp xs hp hfc hst o ho
            rw [exec_builtin ho hc, args_two hx]
            refine run_value' ?_
            have hl := hn0 φ _ K.P w (hor s hms _ hsv)
            cases p with
            | none =>
              subst hst
              simp only [Builtin.copy_, ht0, Sem.run_bind, hK.runUnd hs, Result.andThen_ok, hp, hl, runSize hK hi, hfc, List.getElem?_toArray, List.getElem?_cons_zero, List.getElem?_cons_succ, Sem.run_pure]
              rfl
            | some a =>
              simp only [Builtin.copy_, ht0, Sem.run_bind, hK.runUnd hs, Result.andThen_ok, hp, hl, runSize hK hi, hfc, List.getElem?_toArray, List.getElem?_cons_zero, List.getElem?_cons_succ, Sem.run_pure, hst]
              rfl
          match base, h with
          | none, h =>
            refine ⟨_, H, ⟨Nat.le_refl _, fun φ ac w hor hg hw hfr => ?_⟩, h⟩
            have hdx := hor d hmd _ hdv
            obtain ⟨xs, hxs, hfc⟩ := hr φ _ K.P w hw (hor s hms _ hsv)
            have hp : ∃ cp, ac.eval d = .slice none dl cp := by
              simp only [conc] at hdx
              cases cap with
              | exact q => exact ⟨q, by simpa [concSl, concP] using hdx.symm⟩
              | opened _ => cases hdx
              | edge _ _ => cases hdx
            obtain ⟨cp, hp⟩ := hp
            exact ⟨φ, _, w, Goes.refl hw, rfl, fun o ho next Q hq => wp_value (hrun φ ac w w hor hw none cp xs hp hfc rfl o ho) hq⟩
          | some (b, o), h =>
            rcases putRowK_ok h with ⟨hnil, hk⟩ | h
            · subst hnil
              refine ⟨_, H, ⟨Nat.le_refl _, fun φ ac w hor hg hw hfr => ?_⟩, hk⟩
              have hdx := hor d hmd _ hdv
              obtain ⟨xs, hxs, hfc⟩ := hr φ _ K.P w hw (hor s hms _ hsv)
              have hx0 := concs_nil hxs
              subst hx0
              obtain ⟨p, cp, hp⟩ := conc_sl_len hdx
              exact ⟨φ, _, w, Goes.refl hw, rfl, fun o ho next Q hq => wp_value (hrun φ ac w w hor hw p cp [] hp hfc (by cases p <;> rfl) o ho) hq⟩
            · obtain ⟨cl, e', kd, H', hb, hk1, hone, hle, hget, hnext, hk⟩ := putCellsK_ok h
              refine ⟨_, H', ⟨by rw [hnext]; exact Nat.le_refl _, fun φ ac w hor hg hw hfr => ?_⟩, hk⟩
              have hdx := hor d hmd _ hdv
              obtain ⟨xs, hxs, hfc⟩ := hr φ _ K.P w hw (hor s hms _ hsv)
              rw [hget, hnext]
              by_cases hdl : 0 < dl
              · obtain ⟨L, cp, hL, hp⟩ := conc_sl hdl hdx
                obtain ⟨w', hst, hgo⟩ := store_cells (P := K.P) H.next hw hb hk1 hL hle hxs hone
                exact ⟨φ, _, w', hgo, rfl, fun op ho next Q hq => wp_value (hrun φ ac w w' hor hw _ cp xs hp hfc hst op ho) hq⟩
              · have hd0 : dl = 0 := by omega
                subst hd0
                have hr0 : r = [] := by apply List.eq_nil_of_length_eq_zero; rw [hrl]; simp [Nat.min]
                subst hr0
                have hx0 := concs_nil hxs
                subst hx0
                obtain ⟨p, cp, hp⟩ := conc_sl_len hdx
                obtain ⟨L, hL⟩ : ∃ L, φ b = some L := by
                  simp only [conc] at hdx
                  cases cap <;> simp only [concSl, concP] at hdx <;> (cases hφ : φ b with
                    | none => rw [hφ] at hdx; cases hdx
                    | some L => exact ⟨L, rfl⟩)
                obtain ⟨w', hst, hgo⟩ := store_cells (P := K.P) H.next hw hb hk1 hL hle hxs hone
                have hw' : w' = w := by
                  have := hst; simp only [storeCells, Sem.run_pure] at this; injection this with _ h2; exact h2.symm
                subst hw'
                exact ⟨φ, _, w', hgo, rfl, fun op ho next Q hq => wp_value (hrun φ ac w' w' hor hw p cp [] hp hfc (by cases p <;> rfl) op ho) hq⟩
      · cases h
    · cases h
  · cases h

end GoX
