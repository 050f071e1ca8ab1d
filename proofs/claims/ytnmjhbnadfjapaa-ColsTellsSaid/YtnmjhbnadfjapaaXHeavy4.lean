/-
  THE OPERATIONS THAT CHANGE MEMORY: maps. No program is named here.
-/
import Derived.Test.YtnmjhbnadfjapaaXHeavy3
namespace GoX
open Go

/-! ### Keys that are the same -/
noncomputable def same1 (a b : AV) : Bool :=
  match a, b with
  | .int i x, .int j y => Nat.beq (kindNo i) (kindNo j) && eqI x y
  | .str x, .str y => bytesEq x y
  | .bool x, .bool y => Bool.casesOn x (Bool.casesOn y true false) (Bool.casesOn y false true)
  | _, _ => false
theorem same1_ok {a b : AV} (h : same1 a b = true) : a = b ∧ ∀ (φ : Phi) (x : Value), conc φ a = some x → ∀ n, Instr.sameBits n x x = true := by
  match a, b, h with
  | .int i x, .int j y, h =>
    simp only [same1, Bool.and_eq_true] at h
    obtain ⟨h1, h2⟩ := h
    obtain rfl := kindNo_inj h1
    rw [eqI_eq] at h2
    obtain rfl := of_decide_eq_true h2
    refine ⟨rfl, fun φ v hv n => ?_⟩
    obtain rfl := conc_int hv
    cases n <;> simp [Instr.sameBits]
  | .str x, .str y, h =>
    simp only [same1, bytesEq_eq] at h
    obtain rfl := of_decide_eq_true h
    refine ⟨rfl, fun φ v hv n => ?_⟩
    obtain rfl := conc_str hv
    cases n <;> simp [Instr.sameBits, beq_toListBytes]
  | .bool x, .bool y, h =>
    have : x = y := by cases x <;> cases y <;> first | rfl | cases h
    subst this
    refine ⟨rfl, fun φ v hv n => ?_⟩
    obtain rfl := conc_bool hv
    cases n <;> simp [Instr.sameBits]
noncomputable def sames : List AV → List AV → Bool
  | [], [] => true
  | a :: l, b :: r => same1 a b && sames l r
  | _, _ => false
theorem sames_ok {φ : Phi} : ∀ {l r : List AV}, sames l r = true → l = r ∧ ∀ xs, concs φ l = some xs → ∀ n, ((xs.zip xs).all fun (x, y) => Instr.sameBits n x y) = true
  | [], [], _ => ⟨rfl, fun xs h n => by rw [concs_nil h]; rfl⟩
  | a :: l, b :: r, h => by
    simp only [sames, Bool.and_eq_true] at h
    obtain ⟨rfl, h1⟩ := same1_ok h.1
    obtain ⟨rfl, h2⟩ := sames_ok (φ := φ) h.2
    refine ⟨rfl, fun xs hx n => ?_⟩
    obtain ⟨y, ys, g1, g2, rfl⟩ := concs_cons hx
    simp only [List.zip_cons_cons, List.all_cons, h1 φ y g1 n, h2 ys g2 n, Bool.and_self]
noncomputable def sameKey (a b : AV) : Bool :=
  match a, b with
  | .agg l, .agg r => sames l r
  | a, b => same1 a b
theorem sameKey_ok {a b : AV} (h : sameKey a b = true) : a = b ∧ ∀ (φ : Phi) (x : Value), conc φ a = some x → Instr.sameBits 10000 x x = true := by
  by_cases hc : ∃ l r, a = .agg l ∧ b = .agg r
  · obtain ⟨l, r, rfl, rfl⟩ := hc
    have h' : sames l r = true := h
    refine ⟨by rw [(sames_ok (φ := fun _ => none) h').1], fun φ x hx => ?_⟩
    obtain ⟨xs, hxs, rfl⟩ := conc_agg hx
    have := (sames_ok (φ := φ) h').2 xs hxs 9999
    simpa [Instr.sameBits] using this
  · have h' : same1 a b = true := by
      cases a <;> cases b <;> first | exact h | (exfalso; exact hc ⟨_, _, rfl, rfl⟩)
    obtain ⟨h1, h2⟩ := same1_ok h'
    exact ⟨h1, fun φ x hx => h2 φ x hx 10000⟩

/-! ### Entries that are written -/
noncomputable def nthE {β : Type} (l : List Ent) : Nat → β → (Ent → β) → β :=
  List.rec (fun _ bad _ => bad) (fun x _ ih o bad k => Nat.casesOn o (k x) fun o => ih o bad k) l
theorem nthE_ok : ∀ {l : List Ent} {o : Nat} {k : Ent → Bool}, nthE l o false k = true → ∃ v, l[o]? = some v ∧ k v = true
  | [], _, _, h => by cases h
  | x :: l, 0, k, h => ⟨x, rfl, h⟩
  | x :: l, o + 1, k, h => by simpa using nthE_ok (show nthE l o false k = true from h)
noncomputable def setEK {β : Type} (l : List Ent) : Nat → Ent → (List Ent → β) → β :=
  List.rec (fun _ _ k => k []) (fun x l ih o e k => Nat.casesOn o (k (e :: l)) fun o => ih o e fun r => k (x :: r)) l
theorem setEK_eq {β : Type} : ∀ (l : List Ent) (o : Nat) (e : Ent) (k : List Ent → β), setEK l o e k = k (l.set o e)
  | [], _, _, _ => rfl
  | x :: l, 0, e, k => rfl
  | x :: l, o + 1, e, k => by
    show setEK l o e (fun r => k (x :: r)) = _
    rw [setEK_eq]; rfl
noncomputable def snocE {β : Type} (l : List Ent) (e : Ent) : (List Ent → β) → β := List.rec (fun k => k [e]) (fun x _ ih k => ih fun r => k (x :: r)) l
theorem snocE_eq {β : Type} (e : Ent) : ∀ (l : List Ent) (k : List Ent → β), snocE l e k = k (l ++ [e])
  | [], _ => rfl
  | x :: l, k => by
    show snocE l e (fun r => k (x :: r)) = _
    rw [snocE_eq]; rfl

theorem concEs_get {φ : Phi} : ∀ {l : List Ent} {r : List MapEntry} (i : Nat) {e : Ent}, concEs φ l = some r → l[i]? = some e →
    ∃ k v, r[i]? = some ⟨k, v, e.born⟩ ∧ conc φ e.key = some k ∧ conc φ e.val = some v
  | [], _, i, e, _, he => by simp at he
  | u :: l, r, i, e, h, he => by
    obtain ⟨k, v, y, h1, h2, h3, rfl⟩ := concEs_cons h
    cases i with
    | zero => simp at he; subst he; exact ⟨k, v, by simp, h1, h2⟩
    | succ i => simp at he; simpa using concEs_get i h3 he
theorem concEs_set {φ : Phi} : ∀ {l : List Ent} {r : List MapEntry} (i : Nat) {e : Ent} {k v : Value}, concEs φ l = some r → conc φ e.key = some k → conc φ e.val = some v →
    concEs φ (l.set i e) = some (r.set i ⟨k, v, e.born⟩)
  | [], r, i, e, k, v, h, _, _ => by cases h; rfl
  | u :: l, r, i, e, k, v, h, hk, hv => by
    obtain ⟨a, b, y, h1, h2, h3, rfl⟩ := concEs_cons h
    cases i with
    | zero => exact concEs_cons_mk hk hv h3
    | succ i => exact concEs_cons_mk h1 h2 (concEs_set i h3 hk hv)
theorem concEs_snoc {φ : Phi} : ∀ {l : List Ent} {r : List MapEntry} {e : Ent} {k v : Value}, concEs φ l = some r → conc φ e.key = some k → conc φ e.val = some v →
    concEs φ (l ++ [e]) = some (r ++ [⟨k, v, e.born⟩])
  | [], r, e, k, v, h, hk, hv => by cases h; exact concEs_cons_mk hk hv rfl
  | u :: l, r, e, k, v, h, hk, hv => by
    obtain ⟨a, b, y, h1, h2, h3, rfl⟩ := concEs_cons h
    exact concEs_cons_mk h1 h2 (concEs_snoc h3 hk hv)
theorem concEs_length {φ : Phi} : ∀ {l : List Ent} {r : List MapEntry}, concEs φ l = some r → r.length = l.length
  | [], r, h => by cases h; rfl
  | u :: l, r, h => by obtain ⟨a, b, y, _, _, h3, rfl⟩ := concEs_cons h; simp [concEs_length h3]

theorem run_setObj {P : Program} {w : World} {b : Nat} {o o' : Obj} (h : w.heap[b]? = some o) (hc : ∀ c e f, o ≠ .cells c e f) :
    (setObj b o').run P w = .ok () { w with heap := w.heap.setIfInBounds b o' } := by
  simp only [setObj, Sem.run, h]

/-- A map's block is laid anew. -/
theorem goes_map {φ : Phi} {G : Nat → Option Blk} (n : Nat) {w : World} (hw : WR φ G w) {b : Nat} {es es' : List Ent} {clock clock' : Nat} (hb : G b = some (.map es clock)) {L : Loc} (hL : φ b = some L)
    {xs : List MapEntry} (hxs : concEs φ es' = some xs) :
    Goes φ G n w φ (upd G b (some (.map es' clock'))) n { w with heap := w.heap.setIfInBounds L.b (.map xs.toArray clock') } :=
  goes_set n hw hb rfl hL (obj := .map xs.toArray clock') ⟨xs, hxs, rfl⟩ rfl rfl rfl

theorem modify_set (xs : List MapEntry) (i : Nat) (f : MapEntry → MapEntry) {x : MapEntry} (h : xs[i]? = some x) : xs.toArray.modify i f = (xs.set i (f x)).toArray := by
  apply Array.ext_getElem?
  intro j
  rw [Array.getElem?_modify]
  simp only [List.getElem?_toArray, List.getElem?_set]
  by_cases hj : i = j
  · subst hj
    obtain ⟨hlt, hx⟩ := List.getElem?_eq_some_iff.1 h
    simp [hlt, hx]
  · simp [hj]

/-- The map that is written, its key found or not. -/
noncomputable def entK (K : Tab) (key : TypeId) (H : AH) (m kv : AV) (kf : Nat → List Ent → Nat → Nat → Ent → Bool) (kn : Nat → List Ent → Nat → Bool) : Bool :=
  match m with
  | .map (some r) => Trie.getK (bits r) H.t false fun blk => match blk with
    | .map es clock => (finds K key).go kv es fun f => match f with
      | none => kn r es clock
      | some p => nthE es p.1 false fun e => cond (sameKey e.key kv) (kf r es clock p.1 e) false
    | _ => false
  | _ => false

theorem entK_ok {K : Tab} (hK : K.Ok) {key : TypeId} {H : AH} {m kv : AV} {kf : Nat → List Ent → Nat → Nat → Ent → Bool} {kn : Nat → List Ent → Nat → Bool} (h : entK K key H m kv kf kn = true) :
    ∃ b es clock, m = .map (some b) ∧ H.get b = some (.map es clock) ∧
      (∀ (φ : Phi) (w : World) (x : Value) (e : Bool), conc φ kv = some x → (Instr.checkKey e 10000 key x).run K.P w = .ok () w) ∧
      (((∀ (φ : Phi) (w : World) (kx : Value) (xs : List MapEntry), conc φ kv = some kx → concEs φ es = some xs → (Instr.findKey key kx xs).run K.P w = .ok none w) ∧ kn b es clock = true) ∨
       (∃ i e, es[i]? = some e ∧ e.key = kv ∧ (∀ (φ : Phi) (x : Value), conc φ kv = some x → Instr.sameBits 10000 x x = true) ∧
          (∀ (φ : Phi) (w : World) (kx : Value) (xs : List MapEntry), conc φ kv = some kx → concEs φ es = some xs → ∃ y, conc φ e.val = some y ∧ (Instr.findKey key kx xs).run K.P w = .ok (some (i, y)) w) ∧ kf b es clock i e = true)) := by
  match m, h with
  | .map (some b), h =>
    obtain ⟨blk, hb, h⟩ := getK_ok h
    match blk, h with
    | .map es clock, h =>
      obtain ⟨r, hr, h⟩ := finds_ok hK h
      refine ⟨b, es, clock, rfl, hb, hr.chk, ?_⟩
      match r, h with
      | none, h =>
        refine .inl ⟨fun φ w kx xs hk hx => ?_, h⟩
        obtain ⟨r', hf, hrun⟩ := hr.find φ w kx xs hk hx
        cases r' with
        | none => exact hrun
        | some p => exact hf.elim
      | some (i, v), h =>
        obtain ⟨e, he, h⟩ := nthE_ok h
        obtain ⟨hs, h⟩ := cond_true_of h
        obtain ⟨hs1, hs2⟩ := sameKey_ok hs
        refine .inr ⟨i, e, he, hs1, fun φ x hx => hs2 φ x (by rw [hs1]; exact hx), fun φ w kx xs hk hx => ?_, h⟩
        obtain ⟨r', hf, hrun⟩ := hr.find φ w kx xs hk hx
        obtain ⟨e', he', hv⟩ := hr.there i v rfl
        rw [he] at he'; cases he'
        cases r' with
        | none => exact hf.elim
        | some p =>
          obtain ⟨rfl, hy⟩ := hf
          exact ⟨p.2, by rw [hv]; exact hy, hrun⟩

noncomputable def putBlkK (H : AH) (b : Nat) (blk : Blk) (k : AH → Bool) : Bool := Trie.putK (bits b) H.t (some blk) fun t => k ⟨H.next, t⟩
theorem putBlkK_ok {H : AH} {b : Nat} {blk : Blk} {k : AH → Bool} (h : putBlkK H b blk k = true) : ∃ H' : AH, H'.get = upd H.get b (some blk) ∧ H'.next = H.next ∧ k H' = true := by
  unfold putBlkK at h
  rw [Trie.putK_eq] at h
  exact ⟨_, AH.get_set H H.next b _, rfl, h⟩

noncomputable def hMapPut (K : Tab) (t : TypeId) (m kx x : Operand) : CH :=
  match K.und t with
  | some (.map key _) => ⟨fun T H k => (ce K.ng m).go T fun m => (ce K.ng kx).go T fun kv => (ce K.ng x).go T fun v =>
      entK K key H m kv (fun b es clock i e => setEK es i ⟨kv, v, e.born⟩ fun es => putBlkK H b (.map es clock) fun H => k (.tup []) H)
        (fun b es clock => snocE es ⟨kv, v, clock⟩ fun es => forceN (clock + 1) fun c => putBlkK H b (.map es c) fun H => k (.tup []) H)⟩
  | _ => CH.none

theorem hMapPut_run {K : Tab} (hK : K.Ok) (t : TypeId) (m kx x : Operand) (T : AT) (H : AH) (k : AV → AH → Bool) (h : (hMapPut K t m kx x).go T H k = true) :
    ∃ H', (H.next ≤ H'.next ∧ ∀ (φ : Phi) (a : Act) (w : World), OR K.ng φ T a [m, kx, x] → WR φ H.get w → ∃ w', Goes φ H.get H.next w φ H'.get H'.next w' ∧
      (Instr.mapUpdate t (a.eval m) (a.eval kx) (a.eval x)).run K.P w = .ok () w') ∧ k (.tup []) H' = true := by
  unfold hMapPut at h
  split at h
  · rename_i key elem hs
    obtain ⟨mv, hm, h⟩ := ce_ok h
    obtain ⟨kv, hkv, h⟩ := ce_ok h
    obtain ⟨v, hv, h⟩ := ce_ok h
    obtain ⟨b, es, clock, rfl, hb, hchk, hh⟩ := entK_ok hK h
    rcases hh with ⟨hno, h⟩ | ⟨i, e, he, hkey, hbits, hfind, h⟩
    · rw [snocE_eq, forceN_eq] at h
      obtain ⟨H', h1, h2, hk⟩ := putBlkK_ok h
      refine ⟨H', ⟨by rw [h2]; exact Nat.le_refl _, fun φ a w hor hw => ?_⟩, hk⟩
      obtain ⟨L, hL, hp⟩ := conc_map (hor m (by simp) _ hm)
      have hkx := hor kx (by simp) _ hkv
      have hvx := hor x (by simp) _ hv
      obtain ⟨xs, hxs, hheap⟩ := map_real hw hb hL
      rw [h1, h2]
      refine ⟨_, goes_map H.next hw hb hL (concEs_snoc hxs (e := ⟨kv, v, clock⟩) hkx hvx), ?_⟩
      simp only [Instr.mapUpdate, Sem.run_bind, hK.runUnd hs, Result.andThen_ok, hp, run_getObj hheap (by simp), hchk φ w _ _ hkx, hno φ w _ _ hkx hxs, run_setObj hheap (by simp)]
      simp
    · rw [setEK_eq] at h
      obtain ⟨H', h1, h2, hk⟩ := putBlkK_ok h
      refine ⟨H', ⟨by rw [h2]; exact Nat.le_refl _, fun φ a w hor hw => ?_⟩, hk⟩
      obtain ⟨L, hL, hp⟩ := conc_map (hor m (by simp) _ hm)
      have hkx := hor kx (by simp) _ hkv
      have hvx := hor x (by simp) _ hv
      obtain ⟨xs, hxs, hheap⟩ := map_real hw hb hL
      obtain ⟨y, hy, hfr⟩ := hfind φ w _ _ hkx hxs
      obtain ⟨k0, v0, hx0, hk0, _⟩ := concEs_get i hxs he
      rw [hkey, hkx] at hk0
      injection hk0 with hk0
      rw [h1, h2]
      refine ⟨_, goes_map H.next hw hb hL (concEs_set i hxs (e := ⟨kv, v, e.born⟩) hkx hvx), ?_⟩
      have hst : (Instr.keyThatStays (a.eval kx) (a.eval kx)).run K.P w = .ok (a.eval kx) w := by
        simp [Instr.keyThatStays, hbits φ _ hkx]
      have hold : ((xs.toArray[i]?).map (·.key)).getD (a.eval kx) = a.eval kx := by simp [hx0, hk0]
      simp only [Instr.mapUpdate, Sem.run_bind, hK.runUnd hs, Result.andThen_ok, hp, run_getObj hheap (by simp), hchk φ w _ _ hkx, hfr, hold, hst, run_setObj hheap (by simp)]
      rw [modify_set xs i _ hx0]
  · cases h

theorem hMapUpdate_good {K : Tab} (hK : K.Ok) (t : TypeId) (m kx x : Operand) : CH.Good K (.mapUpdate t m kx x) (hMapPut K t m kx x) := fun T H k h => by
  obtain ⟨H', ⟨hn, hh⟩, hk⟩ := hMapPut_run hK t m kx x T H k h
  refine ⟨_, H', ⟨hn, fun φ a w hor hg hw hfr => ?_⟩, hk⟩
  obtain ⟨w', hgo, hrun⟩ := hh φ a w (by simpa [Op.operands] using hor) hw
  exact ⟨φ, undef, w', hgo, rfl, fun op ho next Q hq => wp_skip' (by simp only [execOp, ho, Sem.run_bind, hrun, Result.andThen_ok, Sem.run_pure]) hq⟩
theorem hInsert_good {K : Tab} (hK : K.Ok) (t : TypeId) (m kx x : Operand) : CH.Good K (.insert t m kx x) (hMapPut K t m kx x) := fun T H k h => by
  obtain ⟨H', ⟨hn, hh⟩, hk⟩ := hMapPut_run hK t m kx x T H k h
  refine ⟨_, H', ⟨hn, fun φ a w hor hg hw hfr => ?_⟩, hk⟩
  obtain ⟨w', hgo, hrun⟩ := hh φ a w (by simpa [Op.operands] using hor) hw
  exact ⟨φ, undef, w', hgo, rfl, fun op ho next Q hq => wp_skip' (by simp only [execOp, ho, Sem.run_bind, hrun, Result.andThen_ok, Sem.run_pure]) hq⟩

/-- 'm[k] op= v': the entry, laid if it is not there. -/
noncomputable def hMapEntry (K : Tab) (t : TypeId) (m kx : Operand) : CH :=
  match K.und t with
  | some (.map key elem) => match K.zero elem with
    | some z => ⟨fun T H k => (ce K.ng m).go T fun m => (ce K.ng kx).go T fun kv =>
        entK K key H m kv (fun b es clock i e => setEK es i ⟨kv, e.val, e.born⟩ fun es => putBlkK H b (.map es clock) fun H => k (.tup [e.val, .int .i64 (.ofNat e.born)]) H)
          (fun b es clock => snocE es ⟨kv, z, clock⟩ fun es => forceN (clock + 1) fun c => putBlkK H b (.map es c) fun H => k (.tup [z, .int .i64 (.ofNat clock)]) H)⟩
    | none => CH.none
  | _ => CH.none
theorem hMapEntry_good {K : Tab} (hK : K.Ok) (t : TypeId) (m kx : Operand) : CH.Good K (.mapEntry t m kx) (hMapEntry K t m kx) := fun T H k h => by
  unfold hMapEntry at h
  split at h
  · rename_i key elem hs
    split at h
    · rename_i z hz
      obtain ⟨mv, hm, h⟩ := ce_ok h
      obtain ⟨kv, hkv, h⟩ := ce_ok h
      obtain ⟨b, es, clock, rfl, hb, hchk, hh⟩ := entK_ok hK h
      rcases hh with ⟨hno, h⟩ | ⟨i, e, he, hkey, hbits, hfind, h⟩
      · rw [snocE_eq, forceN_eq] at h
        obtain ⟨H', h1, h2, hk⟩ := putBlkK_ok h
        refine ⟨_, H', ⟨by rw [h2]; exact Nat.le_refl _, fun φ a w hor hg hw hfr => ?_⟩, hk⟩
        obtain ⟨L, hL, hp⟩ := conc_map (hor m (by simp [Op.operands]) _ hm)
        have hkx := hor kx (by simp [Op.operands]) _ hkv
        obtain ⟨zx, hzx, hrz⟩ := hK.runZero hz φ w
        obtain ⟨xs, hxs, hheap⟩ := map_real hw hb hL
        rw [h1, h2]
        refine ⟨φ, _, _, goes_map H.next hw hb hL (concEs_snoc hxs (e := ⟨kv, z, clock⟩) hkx hzx), conc_tup_mk (concs_cons_mk hzx (concs_cons_mk rfl rfl)), fun op ho next Q hq => wp_value ?_ hq⟩
        simp only [execOp, ho]
        simp only [Sem.run_bind, Instr.mapEntry, hK.runUnd hs, Result.andThen_ok, hp, run_getObj hheap (by simp), hchk φ w _ _ hkx, hno φ w _ _ hkx hxs, hrz, run_setObj hheap (by simp), Sem.run_pure]
        simp [goInt]
      · rw [setEK_eq] at h
        obtain ⟨H', h1, h2, hk⟩ := putBlkK_ok h
        refine ⟨_, H', ⟨by rw [h2]; exact Nat.le_refl _, fun φ a w hor hg hw hfr => ?_⟩, hk⟩
        obtain ⟨L, hL, hp⟩ := conc_map (hor m (by simp [Op.operands]) _ hm)
        have hkx := hor kx (by simp [Op.operands]) _ hkv
        obtain ⟨xs, hxs, hheap⟩ := map_real hw hb hL
        obtain ⟨y, hy, hfr⟩ := hfind φ w _ _ hkx hxs
        obtain ⟨k0, v0, hx0, hk0, hv0⟩ := concEs_get i hxs he
        rw [hkey, hkx] at hk0
        injection hk0 with hk0
        rw [hy] at hv0
        injection hv0 with hv0
        rw [h1, h2]
        refine ⟨φ, _, _, goes_map H.next hw hb hL (concEs_set i hxs (e := ⟨kv, e.val, e.born⟩) hkx hy), conc_tup_mk (concs_cons_mk hy (concs_cons_mk rfl rfl)), fun op ho next Q hq => wp_value ?_ hq⟩
        have hst : (Instr.keyThatStays (a.eval kx) (a.eval kx)).run K.P w = .ok (a.eval kx) w := by
          simp [Instr.keyThatStays, hbits φ _ hkx]
        have hold : ((xs.toArray[i]?).map (·.key)).getD (a.eval kx) = a.eval kx := by simp [hx0, hk0]
        simp only [execOp, ho]
        simp only [Sem.run_bind, Instr.mapEntry, hK.runUnd hs, Result.andThen_ok, hp, run_getObj hheap (by simp), hchk φ w _ _ hkx, hfr, hold, hst, run_setObj hheap (by simp), Sem.run_pure]
        rw [modify_set xs i _ hx0, ← hv0]
        simp [hx0, goInt]
    · cases h
  · cases h

end GoX
