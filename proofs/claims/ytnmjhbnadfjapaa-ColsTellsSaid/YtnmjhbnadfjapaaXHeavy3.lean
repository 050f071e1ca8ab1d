/-
  THE OPERATIONS THAT CHANGE MEMORY: cells and maps that are written. No program is named here.
-/
import Derived.Test.YtnmjhbnadfjapaaXHeavy2
namespace GoX
open Go

def AV.one : AV → Bool
  | .agg _ => false
  | .tup _ => false
  | .mark _ => false
  | _ => true
theorem one_conc {φ : Phi} {v : AV} {x : Value} (h : conc φ v = some x) (ho : v.one = true) : x.oneCell' = true := by
  cases v <;> first | (cases ho; done) | skip
  case ptr p => simp only [conc] at h; cases hp : concP φ p <;> rw [hp] at h <;> cases h; rfl
  case sl p n c => obtain ⟨_, _, rfl⟩ := conc_sl_len h; rfl
  case map r => cases r with
    | none => cases h; rfl
    | some r => obtain ⟨_, _, rfl⟩ := conc_map h; rfl
  case fn f a b => obtain ⟨_, _, _, _, rfl⟩ := conc_fn h; rfl
  case ifc t v => obtain ⟨_, _, rfl⟩ := conc_ifc h; rfl
  case opq v => simp only [conc] at h; split at h <;> cases h; assumption
  case yld b => obtain ⟨_, _, rfl⟩ := conc_yld h; rfl
  all_goals (cases h; rfl)

def allOne : List AV → Bool
  | [] => true
  | v :: l => v.one && allOne l
theorem allOne_conc {φ : Phi} : ∀ {l : List AV} {r : List Value}, concs φ l = some r → allOne l = true → ∀ x ∈ r, x.oneCell' = true
  | [], r, h, _, x, hx => by rw [concs_nil h] at hx; cases hx
  | v :: l, r, h, ho, x, hx => by
    obtain ⟨y, ys, h1, h2, rfl⟩ := concs_cons h
    simp only [allOne, Bool.and_eq_true] at ho
    rcases List.mem_cons.1 hx with rfl | hx
    · exact one_conc h1 ho.1
    · exact allOne_conc h2 ho.2 x hx

theorem set_same {α : Type} (a : Array α) (i : Nat) (x : α) (h : a[i]? = some x) : a.setIfInBounds i x = a := by
  apply Array.ext_getElem?
  intro j
  by_cases hj : i = j
  · subst hj
    have hlt := (Array.getElem?_eq_some_iff.1 h).1
    rw [Array.getElem?_setIfInBounds_self]; simp [hlt, h.symm]
  · rw [Array.getElem?_setIfInBounds_ne hj]

theorem run_storeCells {P : Program} : ∀ (vs : List Value) (i : Nat) (arr : Array Value) (w : World) (e : TypeId) (lo hi b off : Nat), w.heap[b]? = some (.cells arr e (lo, hi)) →
    (∀ v ∈ vs, v.oneCell' = true) → off + i + vs.length ≤ arr.size → (∀ j, j < arr.size → ¬ (lo ≤ j ∧ j < hi)) →
    (storeCells ⟨b, off, none⟩ vs i).run P w = .ok () { w with heap := w.heap.setIfInBounds b (.cells (spl arr.toList (off + i) vs).toArray e (lo, hi)) }
  | [], i, arr, w, e, lo, hi, b, off, h, _, _, _ => by
    have hs : spl arr.toList (off + i) [] = arr.toList := by simp [spl]
    rw [hs, Array.toArray_toList, set_same _ _ _ h]; rfl
  | v :: vs, i, arr, w, e, lo, hi, b, off, h, hone, hlen, hfr => by
    simp only [List.length_cons] at hlen
    have hlt : off + i < arr.size := by omega
    have hbd : b < w.heap.size := (Array.getElem?_eq_some_iff.1 h).1
    have hcell : w.cell? ⟨b, off + i, none⟩ = some arr[off + i] := by rw [cell_of h]; simp [hlt]
    have hfz : w.frozen? ⟨b, off + i, none⟩ = false := by
      simp only [World.frozen?, h]
      have := hfr (off + i) hlt
      simpa using this
    have hset : w.setCell ⟨b, off + i, none⟩ v = { w with heap := w.heap.setIfInBounds b (.cells (arr.setIfInBounds (off + i) v) e (lo, hi)) } := by
      simp only [World.setCell]
      congr 1
      apply Array.ext_getElem?
      intro j
      rw [Array.getElem?_modify]
      by_cases hj : b = j
      · subst hj
        rw [if_pos rfl, h, Array.getElem?_setIfInBounds_self]; simp [hbd]
      · rw [if_neg hj, Array.getElem?_setIfInBounds_ne hj]
    simp only [storeCells, Sem.run_bind, add_eq]
    rw [run_store P w _ v .plain (hone v (by simp)), hcell]
    simp only [hfz, Bool.false_eq_true, if_false, Result.andThen_ok, hset]
    have h' : ({ w with heap := w.heap.setIfInBounds b (.cells (arr.setIfInBounds (off + i) v) e (lo, hi)) } : World).heap[b]? = some (.cells (arr.setIfInBounds (off + i) v) e (lo, hi)) := by
      simp [hbd]
    rw [run_storeCells vs (i + 1) _ _ e lo hi b off h' (fun x hx => hone x (by simp [hx])) (by simp; omega) (fun j hj => hfr j (by simpa using hj))]
    congr 2
    have e1 : spl (arr.setIfInBounds (off + i) v).toList (off + (i + 1)) vs = spl arr.toList (off + i) (v :: vs) := by
      simp only [Array.toList_setIfInBounds, spl, List.length_cons]
      have hl : off + i < arr.toList.length := by simpa using hlt
      rw [show off + (i + 1) = off + i + 1 by omega, List.take_set, List.drop_set, if_pos (by omega), show off + i + 1 + vs.length = off + i + (vs.length + 1) by omega]
      have : (arr.toList.take (off + i + 1)).set (off + i) v = arr.toList.take (off + i) ++ [v] := by
        rw [List.take_succ_eq_append_getElem hl, List.set_append_right _ _ (by simp; omega)]
        have hm : min (off + i) arr.size = off + i := by omega
        simp [hm]
      rw [this]; simp
    simp only [e1]
    apply Array.ext_getElem?
    intro j
    by_cases hj : b = j
    · subst hj
      simp [hbd]
    · rw [Array.getElem?_setIfInBounds_ne hj, Array.getElem?_setIfInBounds_ne hj, Array.getElem?_setIfInBounds_ne hj]

theorem spl_mid {α : Type} (pre cs post xs : List α) (o : Nat) (h : o + xs.length ≤ cs.length) : spl (pre ++ (cs ++ post)) (pre.length + o) xs = pre ++ (spl cs o xs ++ post) := by
  simp only [spl]
  have e1 : (pre ++ (cs ++ post)).take (pre.length + o) = pre ++ cs.take o := by
    rw [List.take_append, List.take_of_length_le (by omega), Nat.add_sub_cancel_left, List.take_append_of_le_length (by omega)]
  have e2 : (pre ++ (cs ++ post)).drop (pre.length + o + xs.length) = cs.drop (o + xs.length) ++ post := by
    rw [List.drop_append, List.drop_eq_nil_of_le (by omega), List.nil_append, show pre.length + o + xs.length - pre.length = o + xs.length by omega, List.drop_append_of_le_length h]
  rw [e1, e2]; simp [List.append_assoc]
theorem spl_length {α : Type} (l vs : List α) (o : Nat) (h : o + vs.length ≤ l.length) : (spl l o vs).length = l.length := by
  simp [spl]; omega

/-- A block whose cells are written. -/
theorem real_spl {φ : Phi} {L : Loc} {c vs : List AV} {e : TypeId} {kd : Nat} {arr : Array Value} {lo hi : Nat} {cs pre post xs : List Value}
    (hr : Real φ L (.cells arr e (lo, hi)) (.cells c e kd)) (hk : kd ≠ 1) (hcs : concs φ c = some cs) (harr : arr = (pre ++ (cs ++ post)).toArray) (hpre : pre.length = L.o)
    (hxs : concs φ vs = some xs) (o : Nat) (hle : o + vs.length ≤ c.length) :
    Real φ L (.cells (spl arr.toList (L.o + o) xs).toArray e (lo, hi)) (.cells (spl c o vs) e kd) := by
  have hl := concs_length hcs
  have hx := concs_length hxs
  have hs : spl arr.toList (L.o + o) xs = pre ++ (spl cs o xs ++ post) := by
    rw [harr, ← hpre]; exact spl_mid pre cs post xs o (by omega)
  rw [hs]
  have hc' := concs_spl o hcs hxs
  have hsl := spl_length cs xs o (by omega)
  match kd, hr, hk with
  | 0, ⟨cs', h1, h2, h3⟩, _ =>
    rw [hcs] at h1; cases h1
    rw [harr] at h2
    simp only [Obj.cells.injEq, Prod.mk.injEq] at h2
    obtain ⟨h4, _, h5, h6⟩ := h2
    have h7 : pre ++ (cs ++ post) = cs := by simpa using congrArg Array.toList h4
    have hp : pre = [] := by apply List.eq_nil_of_length_eq_zero; rw [hpre, h3]
    subst hp
    have hq : post = [] := by
      apply List.eq_nil_of_length_eq_zero
      have := congrArg List.length h7
      simp at this; simpa using this
    subst hq
    exact ⟨spl cs o xs, hc', by simp [h5, h6], h3⟩
  | s + 2, ⟨cs', pre', post', lo', hi', h1, h2, h3, h4, h5⟩, _ =>
    rw [hcs] at h1; cases h1
    rw [harr] at h2
    simp only [Obj.cells.injEq, Prod.mk.injEq] at h2
    obtain ⟨h6, _, rfl, rfl⟩ := h2
    have h7 : pre ++ (cs ++ post) = pre' ++ (cs ++ post') := by simpa using congrArg Array.toList h6
    have h8 := List.append_inj h7 (by omega)
    have hlen : (cs ++ post).length = (cs ++ post').length := by rw [h8.2]
    refine ⟨spl cs o xs, pre, post, lo, hi, hc', rfl, hpre, ?_, fun i hi' => h5 i ?_⟩
    · rw [List.length_append, hsl, ← List.length_append, hlen, h4]
    · have : (pre ++ (spl cs o xs ++ post)).length = (pre' ++ (cs ++ post')).length := by
        rw [← h7]; simp [hsl]
      rw [← this]; exact hi'

theorem real_eq {φ : Phi} {L : Loc} {o : Obj} {c : List AV} {e : TypeId} {k : Nat} (h : Real φ L o (.cells c e k)) : ∃ arr lo hi, o = .cells arr e (lo, hi) := by
  obtain ⟨cs, pre, post, lo, hi, _, h2, _⟩ := real_cells h
  exact ⟨_, lo, hi, h2⟩

/-- Cells of a block are written. -/
theorem store_cells {P : Program} {φ : Phi} {G : Nat → Option Blk} (n : Nat) {w : World} (hw : WR φ G w) {b : Nat} {c vs : List AV} {e : TypeId} {kd : Nat} (hb : G b = some (.cells c e kd)) (hk : kd ≠ 1)
    {L : Loc} (hL : φ b = some L) {o : Nat} (hle : o + vs.length ≤ c.length) {xs : List Value} (hxs : concs φ vs = some xs) (hone : allOne vs = true) :
    ∃ w', (storeCells ⟨L.b, L.o + o, none⟩ xs).run P w = .ok () w' ∧ Goes φ G n w φ (upd G b (some (.cells (spl c o vs) e kd))) n w' := by
  obtain ⟨obj, hobj, hr⟩ := hw.real b _ L hb hL
  obtain ⟨cs, pre, post, lo, hi, h1, rfl, h3, h4⟩ := real_cells hr
  have hl := concs_length h1
  have hx := concs_length hxs
  have hrun := run_storeCells (P := P) xs 0 _ w e lo hi L.b (L.o + o) hobj (allOne_conc hxs hone) (by simp; omega) (fun j hj => h4 j (by simpa using hj))
  refine ⟨_, hrun, ?_⟩
  refine goes_set n hw hb ?_ hL (obj := .cells (spl (pre ++ (cs ++ post)).toArray.toList (L.o + o + 0) xs).toArray e (lo, hi)) ?_ rfl rfl rfl
  · match kd, hk with
    | 0, _ => rfl
    | s + 2, _ => rfl
  · exact real_spl hr hk h1 rfl h3 hxs o hle

noncomputable def putCellsK (H : AH) (a : Nat × Nat) (vs : List AV) (k : AH → Bool) : Bool :=
  Trie.getK (bits a.1) H.t false fun blk => match blk with
    | .cells c e kd => cond (Nat.beq kd 1) false (cond (allOne vs) (spliceK c a.2 vs false fun c => Trie.putK (bits a.1) H.t (some (.cells c e kd)) fun t => k ⟨H.next, t⟩) false)
    | _ => false
theorem putCellsK_ok {H : AH} {b o : Nat} {vs : List AV} {k : AH → Bool} (h : putCellsK H (b, o) vs k = true) :
    ∃ c e kd H', H.get b = some (.cells c e kd) ∧ kd ≠ 1 ∧ allOne vs = true ∧ o + vs.length ≤ c.length ∧ H'.get = upd H.get b (some (.cells (spl c o vs) e kd)) ∧ H'.next = H.next ∧ k H' = true := by
  obtain ⟨blk, hb, h⟩ := getK_ok h
  match blk, h with
  | .cells c e kd, h =>
    simp only at h
    cases hk : Nat.beq kd 1 with
    | true => rw [hk, cond_true] at h; cases h
    | false =>
      rw [hk, cond_false] at h
      obtain ⟨h1, h⟩ := cond_true_of h
      obtain ⟨h2, h⟩ := spliceK_ok h
      rw [Trie.putK_eq] at h
      exact ⟨c, e, kd, _, hb, (fun e => by rw [e] at hk; cases hk), h1, h2, AH.get_set H H.next b _, rfl, h⟩

/-- A row of cells that may be empty is written. -/
noncomputable def putRowK (H : AH) (a : Nat × Nat) (vs : List AV) (k : AH → Bool) : Bool :=
  List.casesOn vs (k H) fun v l => putCellsK H a (v :: l) k
theorem putRowK_ok {H : AH} {a : Nat × Nat} {vs : List AV} {k : AH → Bool} (h : putRowK H a vs k = true) : (vs = [] ∧ k H = true) ∨ putCellsK H a vs k = true := by
  cases vs with
  | nil => exact .inl ⟨rfl, h⟩
  | cons v l => exact .inr h

noncomputable def hStore (K : Tab) (t : TypeId) (x y : Operand) : CH :=
  match K.inf t with
  | some i => ⟨fun T H k => (ce K.ng x).go T fun a => (ce K.ng y).go T fun v => match a with
    | .ptr (some a) => match v with
      | .agg l => cond (Nat.beq l.length i.size) (putRowK H a l fun H => k (.tup []) H) false
      | v => cond (Nat.beq 1 i.size) (putRowK H a [v] fun H => k (.tup []) H) false
    | _ => false⟩
  | none => CH.none
theorem hStore_good {K : Tab} (hK : K.Ok) (t : TypeId) (x y : Operand) : CH.Good K (.store t x y) (hStore K t x y) := fun T H k h => by
  unfold hStore at h
  split at h
  · rename_i i hi
    obtain ⟨a, ha, h⟩ := ce_ok h
    obtain ⟨v, hv, h⟩ := ce_ok h
    match a, h with
    | .ptr (some (b, o)), h =>
      have key : Nat.beq v.cells.length i.size = true ∧ putRowK H (b, o) v.cells (fun H => k (.tup []) H) = true := by
        cases v <;> exact cond_true_of h
      obtain ⟨hsz, key⟩ := key
      have hsz := beq_eq' hsz
      have hrun0 : ∀ (φ : Phi) (ac : Act) (w : World), OR K.ng φ T ac (Op.store t x y).operands.toList → ∃ L xs, φ b = some L ∧ concs φ v.cells = some xs ∧
          ∀ op : Oper, op.op = .store t x y → ∀ w', (storeCells ⟨L.b, L.o + o, none⟩ xs).run K.P w = .ok () w' → (execOp ac.eval op).run K.P w = .ok .skip w' := by
        intro φ ac w hor
        obtain ⟨L, hL, hp⟩ := conc_ptr (hor x (by simp [Op.operands]) _ ha)
        obtain ⟨xs, hxs, hc⟩ := cells_conc (hor y (by simp [Op.operands]) _ hv)
        refine ⟨L, xs, hL, hxs, fun op ho w' hst => ?_⟩
        have hxl := concs_length hxs
        have hne : ¬ (xs.toArray.size ≠ i.size) := by simp; omega
        simp only [execOp, ho]
        simp only [Instr.storeAt, hp, Instr.sureAddr, storeVar, Sem.run_bind, Sem.run_pure, Result.andThen_ok, runSize hK hi, Sem.run_ite, hc]
        rw [if_neg hne]
        simp only [Result.andThen_ok, hst]
      rcases putRowK_ok key with ⟨hnil, hk⟩ | h
      · refine ⟨_, H, ⟨Nat.le_refl _, fun φ ac w hor hg hw hfr => ?_⟩, hk⟩
        obtain ⟨L, xs, hL, hxs, hrun⟩ := hrun0 φ ac w hor
        rw [hnil] at hxs
        rw [concs_nil hxs] at hrun
        exact ⟨φ, undef, w, Goes.refl hw, rfl, fun op ho next Q hq => wp_skip' (hrun op ho w rfl) hq⟩
      · obtain ⟨c, e, kd, H', hb, hk1, hone, hle, hget, hnext, hk⟩ := putCellsK_ok h
        refine ⟨_, H', ⟨by rw [hnext]; exact Nat.le_refl _, fun φ ac w hor hg hw hfr => ?_⟩, hk⟩
        obtain ⟨L, xs, hL, hxs, hrun⟩ := hrun0 φ ac w hor
        obtain ⟨w', hst, hgo⟩ := store_cells (P := K.P) H.next hw hb hk1 hL hle hxs hone
        rw [hget, hnext]
        exact ⟨φ, undef, w', hgo, rfl, fun op ho next Q hq => wp_skip' (hrun op ho w' hst) hq⟩
  · cases h

end GoX
