/-
  THE OPERATIONS THAT CHANGE MEMORY: maps that are gone through; what is copied and appended. No program is named here.
-/
import Derived.Test.YtnmjhbnadfjapaaXHeavy4
namespace GoX
open Go

noncomputable def idxBorn (l : List Ent) (n : Nat) : Nat → (Nat → Ent → Bool) → Bool :=
  List.rec (fun _ _ => false) (fun e _ ih i k => cond (Nat.beq e.born n) (k i e) (forceN (i + 1) fun i => ih i k)) l
theorem idxBorn_ok {n : Nat} : ∀ {l : List Ent} {i : Nat} {k : Nat → Ent → Bool}, idxBorn l n i k = true →
    ∃ j e, l[j]? = some e ∧ k (i + j) e = true ∧ ∀ (φ : Phi) (xs : List MapEntry), concEs φ l = some xs → xs.findIdx? (fun e => (e.born : Int) == (n : Int)) = some j
  | [], i, k, h => by cases h
  | e :: l, i, k, h => by
    have h' : cond (Nat.beq e.born n) (k i e) (forceN (i + 1) fun i => idxBorn l n i k) = true := h
    cases hb : Nat.beq e.born n with
    | true =>
      rw [hb, cond_true] at h'
      have hb' := beq_eq' hb
      refine ⟨0, e, rfl, h', fun φ xs hx => ?_⟩
      obtain ⟨_, _, y, _, _, _, rfl⟩ := concEs_cons hx
      simp [List.findIdx?_cons, hb']
    | false =>
      rw [hb, cond_false, forceN_eq] at h'
      obtain ⟨j, e', h1, h2, h3⟩ := idxBorn_ok h'
      refine ⟨j + 1, e', by simpa using h1, by rw [show i + (j + 1) = i + 1 + j by omega]; exact h2, fun φ xs hx => ?_⟩
      obtain ⟨_, _, y, _, _, g, rfl⟩ := concEs_cons hx
      have hne : ¬ e.born = n := fun e' => by rw [e'] at hb; simp at hb
      have hz : ((e.born : Int) == (n : Int)) = false := by simp; omega
      simp [List.findIdx?_cons, hz, h3 φ y g]

noncomputable def hEntryStore (K : Tab) (m s x : Operand) : CH := ⟨fun T H k => (ce K.ng m).go T fun m => (ce K.ng s).go T fun s => (ce K.ng x).go T fun v => match m, s with
  | .map (some b), .int _ (.ofNat n) => Trie.getK (bits b) H.t false fun blk => match blk with
    | .map es clock => idxBorn es n 0 fun i e => setEK es i ⟨e.key, v, e.born⟩ fun es => putBlkK H b (.map es clock) fun H => k (.tup []) H
    | _ => false
  | _, _ => false⟩
theorem hEntryStore_good {K : Tab} (t : TypeId) (m s x : Operand) : CH.Good K (.entryStore t m s x) (hEntryStore K m s x) := fun T H k h => by
  obtain ⟨mv, hm, h⟩ := ce_ok h
  obtain ⟨sv, hs, h⟩ := ce_ok h
  obtain ⟨v, hv, h⟩ := ce_ok h
  match mv, sv, h with
  | .map (some b), .int kd (.ofNat n), h =>
    obtain ⟨blk, hb, h⟩ := getK_ok h
    match blk, h with
    | .map es clock, h =>
      obtain ⟨j, e, he, h, hidx⟩ := idxBorn_ok h
      rw [setEK_eq, Nat.zero_add] at h
      obtain ⟨H', h1, h2, hk⟩ := putBlkK_ok h
      refine ⟨_, H', ⟨by rw [h2]; exact Nat.le_refl _, fun φ a w hor hg hw hfr => ?_⟩, hk⟩
      obtain ⟨L, hL, hp⟩ := conc_map (hor m (by simp [Op.operands]) _ hm)
      have hsx := conc_int (hor s (by simp [Op.operands]) _ hs)
      have hvx := hor x (by simp [Op.operands]) _ hv
      obtain ⟨xs, hxs, hheap⟩ := map_real hw hb hL
      obtain ⟨k0, v0, hx0, hk0, hv0⟩ := concEs_get j hxs he
      rw [h1, h2]
      refine ⟨φ, undef, _, goes_map H.next hw hb hL (concEs_set j hxs (e := ⟨e.key, v, e.born⟩) hk0 hvx), rfl, fun op ho next Q hq => wp_skip' ?_ hq⟩
      have hf : xs.toArray.findIdx? (fun e => (e.born : Int) == (n : Int)) = some j := by rw [List.findIdx?_toArray]; exact hidx φ xs hxs
      simp only [execOp, ho]
      simp only [Sem.run_bind, Instr.entryStore, hp, run_getObj hheap (by simp), Result.andThen_ok, hsx, asInt, asIntOf, Sem.run_pure, Int.ofNat_eq_natCast, hf, run_setObj hheap (by simp)]
      rw [modify_set xs j _ hx0]

noncomputable def hDelete (K : Tab) (c : Call) : CH :=
  match c.argTypes.toList, c.args.toList with
  | t :: _, [m, kx] => match K.und t with
    | some (.map key _) => ⟨fun T H k => (ce K.ng m).go T fun m => (ce K.ng kx).go T fun kv => match m with
      | .map none => (finds K key).go kv [] fun _ => k (.tup []) H
      | .map (some b) => Trie.getK (bits b) H.t false fun blk => match blk with
        | .map es clock => (finds K key).go kv es fun r => match r with
          | none => k (.tup []) H
          | some p => putBlkK H b (.map (es.eraseIdx p.1) clock) fun H => k (.tup []) H
        | _ => false
      | _ => false⟩
    | _ => CH.none
  | _, _ => CH.none

theorem args_two {c : Call} {x y : Operand} (h : c.args.toList = [x, y]) (f : Operand → Value) : c.args.map f = #[f x, f y] := by
  apply Array.ext'; simp [h]
theorem concEs_erase {φ : Phi} : ∀ {l : List Ent} {r : List MapEntry} (i : Nat), concEs φ l = some r → concEs φ (l.eraseIdx i) = some (r.eraseIdx i)
  | [], r, i, h => by cases h; rfl
  | u :: l, r, i, h => by
    obtain ⟨a, b, y, h1, h2, h3, rfl⟩ := concEs_cons h
    cases i with
    | zero => exact h3
    | succ i => exact concEs_cons_mk h1 h2 (concEs_erase i h3)

theorem hDelete_good {K : Tab} (hK : K.Ok) (c : Call) (hc : c.callee = .builtin .delete) : CH.Good K (.call c) (hDelete K c) := fun T H k h => by
  unfold hDelete at h
  split at h
  · rename_i t l m kx ht hx
    have hmm : m ∈ (Op.call c).operands.toList := by simp [Op.operands, Call.operands, hc, hx]
    have hmk : kx ∈ (Op.call c).operands.toList := by simp [Op.operands, Call.operands, hc, hx]
    have ht0 := types_get ht
    have hfin : ∀ (ac : Act) (w w' : World), (Builtin.delete_ c.argTypes 0 #[ac.eval m, ac.eval kx]).run K.P w = .ok (.tuple #[]) w' →
        ∀ o : Oper, o.op = .call c → (execOp ac.eval o).run K.P w = .ok (.value undef) w' := by
      intro ac w w' hr o ho
      rw [exec_builtin ho hc, args_two hx]
      show (do pure (Next.value (← Builtin.delete_ c.argTypes o.type #[ac.eval m, ac.eval kx])) : Sem Next).run K.P w = _
      have : (Builtin.delete_ c.argTypes o.type #[ac.eval m, ac.eval kx]).run K.P w = .ok (.tuple #[]) w' := hr
      simp only [Sem.run_bind, this, Result.andThen_ok, Sem.run_pure]; rfl
    split at h
    · rename_i key elem hs
      obtain ⟨mv, hm, h⟩ := ce_ok h
      obtain ⟨kv, hkv, h⟩ := ce_ok h
      match mv, h with
      | .map none, h =>
        obtain ⟨r, hr, h⟩ := finds_ok hK h
        refine ⟨_, H, ⟨Nat.le_refl _, fun φ a w hor hg hw hfr => ⟨φ, undef, w, Goes.refl hw, rfl, fun op ho next Q hq => wp_value (hfin a w w ?_ op ho) hq⟩⟩, h⟩
        have hp : a.eval m = .map none := by have := hor m hmm _ hm; simpa [conc] using this.symm
        have hkx := hor kx hmk _ hkv
        simp [Builtin.delete_, ht0, hK.runUnd hs, hp, hr.chk φ w _ _ hkx]
      | .map (some b), h =>
        obtain ⟨blk, hb, h⟩ := getK_ok h
        match blk, h with
        | .map es clock, h =>
          obtain ⟨r, hr, h⟩ := finds_ok hK h
          match r, h with
          | none, h =>
            refine ⟨_, H, ⟨Nat.le_refl _, fun φ a w hor hg hw hfr => ?_⟩, h⟩
            obtain ⟨L, hL, hp⟩ := conc_map (hor m hmm _ hm)
            have hkx := hor kx hmk _ hkv
            obtain ⟨xs, hxs, hheap⟩ := map_real hw hb hL
            obtain ⟨r', hf, hrun⟩ := hr.find φ w _ xs hkx hxs
            have hr' : r' = none := by
              cases r' with
              | none => rfl
              | some p => exact hf.elim
            subst hr'
            refine ⟨φ, undef, _, Goes.refl hw, rfl, fun op ho next Q hq => wp_value (hfin a w w ?_ op ho) hq⟩
            have hsame : ({ w with heap := w.heap.setIfInBounds L.b (.map xs.toArray clock) } : World) = w := by rw [set_same _ _ _ hheap]
            simp only [Builtin.delete_, ht0, Sem.run_bind, hK.runUnd hs, Result.andThen_ok, hp, run_getObj hheap (by simp), hr.chk φ w _ _ hkx, hrun, run_setObj hheap (by simp), List.getElem?_toArray,
              List.getElem?_cons_zero, List.getElem?_cons_succ, hsame]
            simp
          | some p, h =>
            obtain ⟨i, v⟩ := p
            obtain ⟨H', h1, h2, hk⟩ := putBlkK_ok h
            refine ⟨_, H', ⟨by rw [h2]; exact Nat.le_refl _, fun φ a w hor hg hw hfr => ?_⟩, hk⟩
            obtain ⟨L, hL, hp⟩ := conc_map (hor m hmm _ hm)
            have hkx := hor kx hmk _ hkv
            obtain ⟨xs, hxs, hheap⟩ := map_real hw hb hL
            obtain ⟨r', hf, hrun⟩ := hr.find φ w _ xs hkx hxs
            cases r' with
            | none => exact hf.elim
            | some q =>
              obtain ⟨rfl, _⟩ := hf
              rw [h1, h2]
              refine ⟨φ, undef, _, goes_map H.next hw hb hL (concEs_erase q.1 hxs), rfl, fun op ho next Q hq => wp_value (hfin a w _ ?_ op ho) hq⟩
              simp only [Builtin.delete_, ht0, Sem.run_bind, hK.runUnd hs, Result.andThen_ok, hp, run_getObj hheap (by simp), hr.chk φ w _ _ hkx, hrun, run_setObj hheap (by simp), List.getElem?_toArray,
                List.getElem?_cons_zero, List.getElem?_cons_succ]
              have he : xs.toArray.eraseIdxIfInBounds q.1 = (xs.eraseIdx q.1).toArray := by
                apply Array.ext'; simp
              rw [he]
              simp
    · cases h
  · cases h

/-! ### Going through -/
noncomputable def newBlkK (H : AH) (blk : Blk) (k : Nat → AH → Bool) : Bool := forceN (H.next + 1) fun n => Trie.putK (bits H.next) H.t (some blk) fun t => k H.next ⟨n, t⟩
theorem newBlkK_ok {H : AH} {blk : Blk} {k : Nat → AH → Bool} (h : newBlkK H blk k = true) : ∃ H' : AH, H'.get = upd H.get H.next (some blk) ∧ H'.next = H.next + 1 ∧ k H.next H' = true := by
  unfold newBlkK at h
  rw [forceN_eq, Trie.putK_eq] at h
  exact ⟨_, AH.get_set H (H.next + 1) H.next _, rfl, h⟩

noncomputable def hRange (K : Tab) (t : TypeId) (x : Operand) : CH :=
  match K.und t with
  | some .string => ⟨fun T H k => (ce K.ng x).go T fun v => match v with
    | .str s => newBlkK H (.strIter s 0) fun n H => k (.ptr (some (n, 0))) H
    | _ => false⟩
  | some (.map _ _) => ⟨fun T H k => (ce K.ng x).go T fun v => match v with
    | .map none => newBlkK H (.mapIter none 0 [] 0) fun n H => k (.ptr (some (n, 0))) H
    | .map (some m) => Trie.getK (bits m) H.t false fun blk => match blk with
      | .map _ clock => newBlkK H (.mapIter (some m) clock [] clock) fun n H => k (.ptr (some (n, 0))) H
      | _ => false
    | _ => false⟩
  | _ => CH.none
theorem hRange_good {K : Tab} (hK : K.Ok) (t : TypeId) (x : Operand) : CH.Good K (.range t x) (hRange K t x) := fun T H k h => by
  unfold hRange at h
  split at h
  · rename_i hs
    obtain ⟨v, hv, h⟩ := ce_ok h
    match v, h with
    | .str s, h =>
      obtain ⟨H', h1, h2, hk⟩ := newBlkK_ok h
      refine ⟨_, H', ⟨by omega, fun φ a w hor hg hw hfr => ?_⟩, hk⟩
      have hp := conc_str (hor x (by simp [Op.operands]) _ hv)
      have hn := hfr H.next (Nat.le_refl _) (by omega)
      rw [h1, h2]
      refine ⟨_, _, _, goes_new (o := 0) (k := 0) (obj := .stringIter ⟨s.toArray⟩ 0) (w' := { w with heap := w.heap.push (.stringIter ⟨s.toArray⟩ 0) }) hw hn ⟨rfl, rfl⟩ rfl rfl rfl, conc_ptr_upd φ _ _ 0 0,
        fun op ho next Q hq => wp_value ?_ hq⟩
      simp only [execOp, ho]
      simp [Instr.range, hK.runUnd hs, hp]
  · rename_i kt et hs
    obtain ⟨v, hv, h⟩ := ce_ok h
    match v, h with
    | .map none, h =>
      obtain ⟨H', h1, h2, hk⟩ := newBlkK_ok h
      refine ⟨_, H', ⟨by omega, fun φ a w hor hg hw hfr => ?_⟩, hk⟩
      have hp : a.eval x = .map none := by have := hor x (by simp [Op.operands]) _ hv; simpa [conc] using this.symm
      have hn := hfr H.next (Nat.le_refl _) (by omega)
      rw [h1, h2]
      refine ⟨_, _, _, goes_new (o := 0) (k := 0) (obj := .mapIter none 0 #[] 0) (w' := { w with heap := w.heap.push (.mapIter none 0 #[] 0) }) hw hn ⟨rfl, rfl⟩ rfl rfl rfl, conc_ptr_upd φ _ _ 0 0,
        fun op ho next Q hq => wp_value ?_ hq⟩
      simp only [execOp, ho]
      simp [Instr.range, hK.runUnd hs, hp]
    | .map (some m), h =>
      obtain ⟨blk, hb, h⟩ := getK_ok h
      match blk, h with
      | .map es clock, h =>
        obtain ⟨H', h1, h2, hk⟩ := newBlkK_ok h
        refine ⟨_, H', ⟨by omega, fun φ a w hor hg hw hfr => ?_⟩, hk⟩
        obtain ⟨L, hL, hp⟩ := conc_map (hor x (by simp [Op.operands]) _ hv)
        obtain ⟨xs, hxs, hheap⟩ := map_real hw hb hL
        have hn := hfr H.next (Nat.le_refl _) (by omega)
        have hmn : m ≠ H.next := fun e => by rw [e, hn] at hL; cases hL
        rw [h1, h2]
        refine ⟨_, _, _, goes_new (o := 0) (k := 0) (obj := .mapIter (some L.b) clock #[] clock) (w' := { w with heap := w.heap.push (.mapIter (some L.b) clock #[] clock) }) hw hn
          ⟨L, by simp [upd, hmn, hL], rfl, rfl⟩ rfl rfl rfl, conc_ptr_upd φ _ _ 0 0, fun op ho next Q hq => wp_value ?_ hq⟩
        simp only [execOp, ho]
        simp [Instr.range, hK.runUnd hs, hp, run_getObj hheap (by simp)]
  · cases h


/-- A text's next letter. -/
noncomputable def hNextS (K : Tab) (it : Operand) : CH := ⟨fun T H k => (ce K.ng it).go T fun v => match v with
  | .ptr (some (r, 0)) => Trie.getK (bits r) H.t false fun blk => match blk with
    | .strIter s pos => Bool.casesOn (Nat.blt pos s.length) (k (.tup [.bool false]) H)
        (forceI (Utf8.decode ⟨s.toArray⟩ pos).1 fun c => forceN (pos + (Utf8.decode ⟨s.toArray⟩ pos).2) fun q => putBlkK H r (.strIter s q) fun H => k (.tup [.bool true, .int .i64 (.ofNat pos), .int .i32 c]) H)
    | _ => false
  | _ => false⟩
theorem hNextS_good {K : Tab} (it : Operand) : CH.Good K (.next it true) (hNextS K it) := fun T H k h => by
  obtain ⟨v, hv, h⟩ := ce_ok h
  match v, h with
  | .ptr (some (r, 0)), h =>
    obtain ⟨blk, hb, h⟩ := getK_ok h
    match blk, h with
    | .strIter s pos, h =>
      have hreal : ∀ (φ : Phi) (a : Act) (w : World), OR K.ng φ T a (Op.next it true).operands.toList → WR φ H.get w →
          ∃ L, φ r = some L ∧ a.eval it = .pointer (some ⟨L.b, 0, none⟩) ∧ w.heap[L.b]? = some (.stringIter ⟨s.toArray⟩ pos) ∧ L.o = 0 := by
        intro φ a w hor hw
        obtain ⟨L, hL, hp⟩ := conc_ptr (hor it (by simp [Op.operands]) _ hv)
        obtain ⟨o, ho, rfl, h0⟩ := hw.real r _ L hb hL
        exact ⟨L, hL, by rw [hp, h0], ho, h0⟩
      have hsz : (⟨s.toArray⟩ : ByteArray).size = s.length := by simp [ByteArray.size]
      cases hlt : Nat.blt pos s.length with
      | false =>
        simp only [hlt] at h
        refine ⟨_, H, ⟨Nat.le_refl _, fun φ a w hor hg hw hfr => ?_⟩, h⟩
        obtain ⟨L, hL, hp, ho, _⟩ := hreal φ a w hor hw
        refine ⟨φ, .tuple #[.bool false], w, Goes.refl hw, rfl, fun op hop next Q hq => wp_value ?_ hq⟩
        have hge : ¬ pos < s.length := fun e => by rw [show Nat.blt pos s.length = true by simp [Nat.blt_eq, e]] at hlt; cases hlt
        simp only [execOp, hop]
        simp [Instr.next, hp, run_getObj ho (by simp), hsz, hge]
      | true =>
        simp only [hlt, forceI_eq, forceN_eq] at h
        obtain ⟨H', h1, h2, hk⟩ := putBlkK_ok h
        refine ⟨_, H', ⟨by rw [h2]; exact Nat.le_refl _, fun φ a w hor hg hw hfr => ?_⟩, hk⟩
        obtain ⟨L, hL, hp, ho, h0⟩ := hreal φ a w hor hw
        rw [h1, h2]
        refine ⟨φ, _, _, goes_set H.next hw hb rfl hL (obj := .stringIter ⟨s.toArray⟩ (pos + (Utf8.decode ⟨s.toArray⟩ pos).2))
          (w' := { w with heap := w.heap.setIfInBounds L.b (.stringIter ⟨s.toArray⟩ (pos + (Utf8.decode ⟨s.toArray⟩ pos).2)) }) ⟨rfl, h0⟩ rfl rfl rfl, rfl, fun op hop next Q hq => wp_value ?_ hq⟩
        have hlt' := blt_lt hlt
        simp only [execOp, hop]
        simp [Instr.next, hp, run_getObj ho (by simp), hsz, hlt', run_setObj ho (by simp), goInt]

/-! ### A map's next entry -/
noncomputable def hasN (n : Nat) (l : List Nat) : Bool := List.rec false (fun m _ ih => cond (Nat.beq m n) true ih) l
theorem hasN_eq (n : Nat) : ∀ (l : List Nat), hasN n l = l.contains n
  | [] => rfl
  | m :: l => by
    show cond (Nat.beq m n) true (hasN n l) = _
    rw [hasN_eq n l, List.contains_cons]
    cases hb : Nat.beq m n with
    | true => rw [beq_eq' hb]; simp
    | false =>
      have : ¬ n = m := fun e => by rw [e] at hb; simp at hb
      simp [this]
noncomputable def unseen (seen : List Nat) : List Ent → List Ent
  | [] => []
  | e :: l => match hasN e.born seen with
    | true => unseen seen l
    | false => e :: unseen seen l
noncomputable def allFrom (last : Nat) : List Ent → Bool
  | [] => true
  | e :: l => Nat.ble last e.born && allFrom last l
def nilB {α : Type} : List α → Bool
  | [] => true
  | _ => false

theorem unseen_conc {φ : Phi} (seen : List Nat) : ∀ {l : List Ent} {xs : List MapEntry}, concEs φ l = some xs → concEs φ (unseen seen l) = some (xs.filter fun e => !seen.contains e.born)
  | [], xs, h => by cases h; rfl
  | e :: l, xs, h => by
    obtain ⟨k, v, y, h1, h2, h3, rfl⟩ := concEs_cons h
    unfold unseen
    rw [hasN_eq]
    cases hc : seen.contains e.born with
    | true => simp only [hc, List.filter_cons, Bool.not_true, Bool.false_eq_true, if_false]; exact unseen_conc seen h3
    | false => simp only [hc, List.filter_cons, Bool.not_false, if_true]; exact concEs_cons_mk h1 h2 (unseen_conc seen h3)
theorem allFrom_conc {φ : Phi} (last : Nat) : ∀ {l : List Ent} {xs : List MapEntry}, concEs φ l = some xs → (xs.all fun e => decide (e.born ≥ last)) = allFrom last l
  | [], xs, h => by cases h; rfl
  | e :: l, xs, h => by
    obtain ⟨k, v, y, h1, h2, h3, rfl⟩ := concEs_cons h
    simp only [List.all_cons, allFrom_conc last h3, allFrom]
    congr 1
    rw [Bool.eq_iff_iff]; simp

/-- Where it stands in a map: all entries that may come next, each handed on; or, if there is none, that. -/
noncomputable def goAll (H : AH) (r m since clock : Nat) (seen : List Nat) (k : AV → AH → Bool) : List Ent → Bool
  | [] => true
  | e :: l => putBlkK H r (.mapIter (some m) since (seen ++ [e.born]) clock) (fun H => k (.tup [.bool true, e.key, e.val]) H) && goAll H r m since clock seen k l
noncomputable def oldAll (since : Nat) : List Ent → Bool
  | [] => true
  | e :: l => Nat.blt e.born since && oldAll since l

noncomputable def hNextM (K : Tab) (det : Bool) (it : Operand) : CH := ⟨fun T H k => (ce K.ng it).go T fun v => match v with
  | .ptr (some (r, 0)) => Trie.getK (bits r) H.t false fun blk => match blk with
    | .mapIter none _ _ _ => k (.tup [.bool false]) H
    | .mapIter (some m) since seen last => Trie.getK (bits m) H.t false fun blk => match blk with
      | .map es clock => cond (!nilB seen && !nilB es && allFrom last es) false (match unseen seen es with
        | [] => k (.tup [.bool false]) H
        | e :: l => cond (oldAll since (e :: l) && (!det || nilB l)) (goAll H r m since clock seen k (e :: l)) false)
      | _ => false
    | _ => false
  | _ => false⟩

/-- One of several outcomes. -/
def SimO (K : Tab) (T : AT) (G : Nat → Option Blk) (n : Nat) (op : Op) (O : AV → AH → Prop) : Prop :=
  (∃ v H', O v H') ∧ (∀ v H', O v H' → n ≤ H'.next) ∧ ∀ (φ : Phi) (a : Act) (w : World), OR K.ng φ T a op.operands.toList → Glob K.ng φ → WR φ G w →
    (∀ b, n ≤ b → (∃ v H', O v H' ∧ b < H'.next) → φ b = none) →
    ∃ v H' ψ x w', O v H' ∧ Goes φ G n w ψ H'.get H'.next w' ∧ conc ψ v = some x ∧
      ∀ o : Oper, o.op = op → ∀ (next : Act → World → Prop) (Q : Exit → Act → World → Prop), next (a.put o.dst x) w' → o.wp K.P a w next Q

theorem SimH.some {K : Tab} {T : AT} {G : Nat → Option Blk} {n : Nat} {op : Op} {v : AV} {H' : AH} (h : SimH K T G n op v H'.get H'.next) : SimO K T G n op fun u I => u = v ∧ I = H' := by
  refine ⟨⟨v, H', rfl, rfl⟩, fun u I hu => by rw [hu.2]; exact h.1, fun φ a w hor hg hw hfr => ?_⟩
  obtain ⟨ψ, x, w', h1, h2, h3⟩ := h.2 φ a w hor hg hw (fun b hb hb' => hfr b hb ⟨v, H', ⟨rfl, rfl⟩, hb'⟩)
  exact ⟨v, H', ψ, x, w', ⟨rfl, rfl⟩, h1, h2, h3⟩

/-- An operation, whose outcomes are all handed on; one alone, if 'det'. -/
def CH.All (K : Tab) (det : Bool) (op : Op) (c : CH) : Prop := ∀ T H k, c.go T H k = true →
  ∃ O : AV → AH → Prop, (∀ v H', O v H' → k v H' = true) ∧ SimO K T H.get H.next op O ∧ (det = true → ∃ v H', SimH K T H.get H.next op v H'.get H'.next ∧ k v H' = true)
theorem CH.Good.all {K : Tab} {op : Op} {c : CH} (h : CH.Good K op c) (det : Bool) : CH.All K det op c := fun T H k hk => by
  obtain ⟨v, H', hs, hv⟩ := h T H k hk
  exact ⟨fun u I => u = v ∧ I = H', fun u I e => by rw [e.1, e.2]; exact hv, hs.some, fun _ => ⟨v, H', hs, hv⟩⟩

theorem oldAll_mem {since : Nat} : ∀ {l : List Ent}, oldAll since l = true → ∀ e ∈ l, e.born < since
  | [], _, e, he => by cases he
  | x :: l, h, e, he => by
    simp only [oldAll, Bool.and_eq_true] at h
    rcases List.mem_cons.1 he with rfl | he
    · exact blt_lt h.1
    · exact oldAll_mem h.2 e he
theorem goAll_mem {H : AH} {r m since clock : Nat} {seen : List Nat} {k : AV → AH → Bool} : ∀ {l : List Ent}, goAll H r m since clock seen k l = true → ∀ e ∈ l,
    ∃ H' : AH, H'.get = upd H.get r (some (.mapIter (some m) since (seen ++ [e.born]) clock)) ∧ H'.next = H.next ∧ k (.tup [.bool true, e.key, e.val]) H' = true
  | [], _, e, he => by cases he
  | x :: l, h, e, he => by
    simp only [goAll, Bool.and_eq_true] at h
    rcases List.mem_cons.1 he with rfl | he
    · exact putBlkK_ok h.1
    · exact goAll_mem h.2 e he

theorem born_conc {φ : Phi} {since : Nat} : ∀ {l : List Ent} {xs : List MapEntry}, concEs φ l = some xs → (∀ e ∈ l, e.born < since) → ∀ x ∈ xs, x.born < since
  | [], xs, h, _, x, hx => by cases h; cases hx
  | e :: l, xs, h, ho, x, hx => by
    obtain ⟨k, v, y, h1, h2, h3, rfl⟩ := concEs_cons h
    rcases List.mem_cons.1 hx with rfl | hx
    · exact ho e (by simp)
    · exact born_conc h3 (fun z hz => ho z (by simp [hz])) x hx

end GoX
