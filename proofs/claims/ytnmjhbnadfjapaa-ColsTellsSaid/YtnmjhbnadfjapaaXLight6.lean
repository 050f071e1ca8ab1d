/-
  THE OPERATIONS THAT CHANGE NO MEMORY: maps that are asked; lengths; and all of them together. No program is named here.
-/
import Derived.Test.YtnmjhbnadfjapaaXLight5
namespace GoX
open Go

/-! ### Keys -/
structure CU where
  go : AV → Bool → Bool
structure CUs where
  go : List AV → Bool → Bool
def plainD : TypeDesc → Bool
  | .int _ => true
  | .string => true
  | .bool => true
  | _ => false
noncomputable def fieldsChk (K : Tab) : List Field → CUs
  | [] => ⟨fun _ k => k⟩
  | f :: fs => match decide (f.name = "_"), K.und f.type with
    | false, some d => match plainD d with
      | true => ⟨fun xs k => nthK xs f.offset false fun _ => (fieldsChk K fs).go xs k⟩
      | false => ⟨fun _ _ => false⟩
    | _, _ => ⟨fun _ _ => false⟩

theorem chk_plain {K : Tab} (hK : K.Ok) {t : TypeId} {d : TypeDesc} (hd : K.und t = some d) (hp : plainD d = true) (e : Bool) (n : Nat) (x : Value) (w : World) :
    (Instr.checkKey e (n + 1) t x).run K.P w = .ok () w := by
  unfold Instr.checkKey
  simp only [Sem.run_bind, hK.runUnd hd, Result.andThen_ok]
  cases d <;> first | (cases hp; done) | (cases x <;> rfl)

theorem fieldsChk_ok {K : Tab} (hK : K.Ok) : ∀ {fs : List Field} {xs : List AV} {k : Bool}, (fieldsChk K fs).go xs k = true →
    (∀ (φ : Phi) (w : World) (cs : List Value) (e : Bool) (n : Nat), concs φ xs = some cs →
      (forIn fs PUnit.unit (fun f (_ : PUnit) => do
          if f.name ≠ "_" then do
            Instr.checkKey e (n + 1) f.type (← part f.type cs.toArray f.offset)
            pure (ForInStep.yield PUnit.unit)
          else pure (ForInStep.yield PUnit.unit)) : Sem PUnit).run K.P w = .ok PUnit.unit w) ∧ k = true
  | [], xs, k, h => ⟨fun φ w cs e n _ => rfl, h⟩
  | f :: fs, xs, k, h => by
    unfold fieldsChk at h
    split at h
    · rename_i d hn hd
      split at h
      · rename_i hp
        obtain ⟨a, ha, h⟩ := nthK_ok h
        obtain ⟨h1, h2⟩ := fieldsChk_ok hK h
        refine ⟨fun φ w cs e n hcs => ?_, h2⟩
        have hname : f.name ≠ "_" := of_decide_eq_false hn
        obtain ⟨x, hx, hcx⟩ := concs_get f.offset hcs ha
        have hagg : aggD d = false := by cases d <;> first | rfl | cases hp
        have hpart : (part f.type cs.toArray f.offset).run K.P w = .ok x w := by
          simp [part, runIsAgg hK hd, hagg, hx]
        simp only [List.forIn_cons, Sem.run_bind, Sem.run_ite]
        rw [if_pos hname]
        simp only [hpart, Result.andThen_ok, chk_plain hK hd hp, Sem.run_pure]
        exact h1 φ w cs e n hcs
      · cases h
    · cases h

/-- That a key may be one. -/
noncomputable def keyChk (K : Tab) (t : TypeId) : CU :=
  match K.und t with
  | some (.struct fs) => ⟨fun v k => match v with
    | .agg xs => (fieldsChk K fs.toList).go xs k
    | _ => false⟩
  | some (.array n e) => match K.und e, K.inf e with
    | some d, some j => match plainD d with
      | true => ⟨fun v k => match v with
        | .agg xs => cond (Nat.beq j.size 1 && Nat.ble n xs.length) k false
        | _ => false⟩
      | false => ⟨fun _ _ => false⟩
    | _, _ => ⟨fun _ _ => false⟩
  | some (.int _) => ⟨fun _ k => k⟩
  | some .string => ⟨fun _ k => k⟩
  | some .bool => ⟨fun _ k => k⟩
  | _ => ⟨fun _ _ => false⟩
theorem forIn_yield {P : Program} {g : Nat → PUnit → Sem (ForInStep PUnit)} {w : World} : ∀ (n i : Nat), (∀ j, i ≤ j → j < i + n → (g j PUnit.unit).run P w = .ok (.yield PUnit.unit) w) →
    (forIn (List.range' i n) PUnit.unit g : Sem PUnit).run P w = .ok PUnit.unit w
  | 0, i, _ => rfl
  | n + 1, i, h => by
    rw [List.range'_succ, List.forIn_cons]
    simp only [Sem.run_bind, h i (Nat.le_refl _) (by omega), Result.andThen_ok]
    exact forIn_yield n (i + 1) fun j h1 h2 => h j (by omega) (by omega)
theorem chk_array {K : Tab} (hK : K.Ok) {t e : TypeId} {n : Nat} {d : TypeDesc} {j : TypeInfo} (hs : K.und t = some (.array n e)) (hd : K.und e = some d) (hp : plainD d = true) (hj : K.inf e = some j) (hsz : j.size = 1) (m : Bool) (q : Nat) {cs : Array Value} (hl : n ≤ cs.size) (w : World) :
    (Instr.checkKey m (q + 2) t (.agg cs)).run K.P w = .ok () w := by
  unfold Instr.checkKey
  simp only [Sem.run_bind, hK.runUnd hs, Result.andThen_ok]
  have hagg : aggD d = false := by cases d <;> first | rfl | cases hp
  have hso : (Go.sizeOf e).run K.P w = .ok 1 w := by simp [Go.sizeOf, hK.runInf hj, hsz]
  simp only [Std.Legacy.Range.forIn_eq_forIn_range', Std.Legacy.Range.size, Nat.sub_zero, Nat.add_one_sub_one, Nat.div_one]
  rw [forIn_yield n 0 fun i _ hi => ?_]
  · rfl
  · have hpart : (part e cs (i * 1)).run K.P w = .ok (cs[i]'(by omega)) w := by
      simp [part, runIsAgg hK hd, hagg, show i < cs.size by omega]
    simp only [Sem.run_bind, hso, Result.andThen_ok, hpart, chk_plain hK hd hp, Sem.run_pure]
theorem keyChk_ok {K : Tab} (hK : K.Ok) {t : TypeId} {v : AV} {k : Bool} (h : (keyChk K t).go v k = true) :
    (∀ (φ : Phi) (w : World) (x : Value) (e : Bool), conc φ v = some x → (Instr.checkKey e 10000 t x).run K.P w = .ok () w) ∧ k = true := by
  unfold keyChk at h
  split at h
  · rename_i fs hs
    match v, h with
    | .agg xs, h =>
      obtain ⟨h1, h2⟩ := fieldsChk_ok hK h
      refine ⟨fun φ w x e hx => ?_, h2⟩
      obtain ⟨cs, hcs, rfl⟩ := conc_agg hx
      unfold Instr.checkKey
      simp only [Sem.run_bind, hK.runUnd hs, Result.andThen_ok]
      rw [← Array.forIn_toList]
      have := h1 φ w cs e 9998 hcs
      exact congrArg (fun r : Result PUnit => r.andThen fun _ w' => (pure () : Sem Unit).run K.P w') this
  · rename_i n et hs
    split at h
    · rename_i d j hd hj
      split at h
      · rename_i hp
        match v, h with
        | .agg xs, h =>
          obtain ⟨h1, h2⟩ := cond_true_of h
          simp only [Bool.and_eq_true] at h1
          refine ⟨fun φ w x e hx => ?_, h2⟩
          obtain ⟨cs, hcs, rfl⟩ := conc_agg hx
          have hlen := concs_length hcs
          have hle := ble_le h1.2
          exact chk_array hK hs hd hp hj (beq_eq' h1.1) e 9998 (by simpa [hlen] using hle) w
      · cases h
    · cases h
  · rename_i i hs; exact ⟨fun φ w x e _ => chk_plain hK hs rfl e 9999 x w, h⟩
  · rename_i hs; exact ⟨fun φ w x e _ => chk_plain hK hs rfl e 9999 x w, h⟩
  · rename_i hs; exact ⟨fun φ w x e _ => chk_plain hK hs rfl e 9999 x w, h⟩
  · cases h

/-! ### Finding -/
noncomputable def findK (q : CQ) (kv : AV) (es : List Ent) : Nat → (Option (Nat × AV) → Bool) → Bool :=
  List.rec (fun _ k => k none) (fun e _ ih i k => q.go kv e.key fun r => Bool.casesOn r (ih (i + 1) k) (k (some (i, e.val)))) es

/-- The entry found, as the model tells it. -/
def FoundIs (φ : Phi) : Option (Nat × AV) → Option (Nat × Value) → Prop
  | none, none => True
  | some (i, v), some (j, x) => i = j ∧ conc φ v = some x
  | _, _ => False

theorem findK_ask {K : Tab} {t : TypeId} {q : CQ} (hq : CQ.Good K t q) {kv : AV} : ∀ {es : List Ent} {i : Nat} {k : Option (Nat × AV) → Bool}, findK q kv es i k = true →
    ∃ r, (∀ (φ : Phi) (w : World) (kx : Value) (xs : List MapEntry), conc φ kv = some kx → concEs φ es = some xs → ∃ r', FoundIs φ r r' ∧ (Instr.findAsking t kx xs i).run K.P w = .ok r' w) ∧
      (∀ j v, r = some (j, v) → i ≤ j ∧ ∃ e, es[j - i]? = some e ∧ e.val = v) ∧ k r = true
  | [], i, k, h => ⟨none, fun φ w kx xs _ hx => by cases hx; exact ⟨none, trivial, rfl⟩, (fun _ _ e => by cases e), h⟩
  | e :: es, i, k, h => by
    obtain ⟨r, hr, h⟩ := hq kv e.key _ (show q.go kv e.key (fun r => Bool.casesOn r (findK q kv es (i + 1) k) (k (some (i, e.val)))) = true from h)
    cases r with
    | true =>
      refine ⟨some (i, e.val), fun φ w kx xs hk hx => ?_, fun j v e' => ?_, h⟩
      · obtain ⟨kk, vv, y, h1, h2, h3, rfl⟩ := concEs_cons hx
        refine ⟨some (i, vv), ⟨rfl, h2⟩, ?_⟩
        simp only [Instr.findAsking, Sem.run_bind, Op.equal, Op.maxDepth, hr φ w kx kk hk h1 9998, Result.andThen_ok, if_true, Sem.run_pure]
      · cases e'; exact ⟨Nat.le_refl _, e, by simp, rfl⟩
    | false =>
      obtain ⟨r, h1, h2, h3⟩ := findK_ask hq (show findK q kv es (i + 1) k = true from h)
      refine ⟨r, fun φ w kx xs hk hx => ?_, fun j v e' => ?_, h3⟩
      · obtain ⟨kk, vv, y, g1, g2, g3, rfl⟩ := concEs_cons hx
        obtain ⟨r', hf, hrun⟩ := h1 φ w kx y hk g3
        refine ⟨r', hf, ?_⟩
        simp only [Instr.findAsking, Sem.run_bind, Op.equal, Op.maxDepth, hr φ w kx kk hk g1 9998, Result.andThen_ok, Bool.false_eq_true, if_false]
        exact hrun
      · obtain ⟨g1, e0, g2, g3⟩ := h2 j v e'
        exact ⟨by omega, e0, by rw [show j - i = (j - (i + 1)) + 1 by omega]; simpa using g2, g3⟩

theorem plainQ_now {d : TypeDesc} {a b : AV} {k : Bool → Bool} (h : (plainQ d).go a b k = true) :
    ∃ r, (∀ (φ : Phi) (xa xb : Value), conc φ a = some xa → conc φ b = some xb → Instr.sameNow d xa xb = some r) ∧ k r = true := by
  cases d <;> first | (cases h; done) | skip
  case bool =>
    match a, b, h with
    | .bool x, .bool y, h =>
      have hk : k (x == y) = true := by cases x <;> cases y <;> exact h
      refine ⟨_, fun φ xa xb ha hb => ?_, hk⟩
      obtain rfl := conc_bool ha; obtain rfl := conc_bool hb; rfl
  case int kk =>
    match a, b, h with
    | .int i x, .int j y, h =>
      obtain ⟨hc, h'⟩ := cond_true_of h
      simp only [forceB_eq] at h'
      refine ⟨_, fun φ xa xb ha hb => ?_, h'⟩
      obtain rfl := conc_int ha; obtain rfl := conc_int hb
      obtain rfl := kindNo_inj hc
      simp [Instr.sameNow, eqI_beq]
  case string =>
    match a, b, h with
    | .str x, .str y, h =>
      simp only [plainQ, forceB_eq] at h
      refine ⟨_, fun φ xa xb ha hb => ?_, h⟩
      obtain rfl := conc_str ha; obtain rfl := conc_str hb
      show some ((⟨x.toArray⟩ : ByteArray) == ⟨y.toArray⟩) = _
      rw [beq_toListBytes, toList_mk, toList_mk, bytesEq_eq]
      congr 1
      rw [Bool.eq_iff_iff]; simp

theorem findK_now {d : TypeDesc} {kv : AV} : ∀ {es : List Ent} {i : Nat} {k : Option (Nat × AV) → Bool}, findK (plainQ d) kv es i k = true →
    ∃ r, (∀ (φ : Phi) (kx : Value) (xs : List MapEntry), conc φ kv = some kx → concEs φ es = some xs → ∃ r', FoundIs φ r r' ∧ Instr.findNow d kx xs i = some r') ∧
      (∀ j v, r = some (j, v) → i ≤ j ∧ ∃ e, es[j - i]? = some e ∧ e.val = v) ∧ k r = true
  | [], i, k, h => ⟨none, fun φ kx xs _ hx => by cases hx; exact ⟨none, trivial, rfl⟩, (fun _ _ e => by cases e), h⟩
  | e :: es, i, k, h => by
    obtain ⟨r, hr, h⟩ := plainQ_now (show (plainQ d).go kv e.key (fun r => Bool.casesOn r (findK (plainQ d) kv es (i + 1) k) (k (some (i, e.val)))) = true from h)
    cases r with
    | true =>
      refine ⟨some (i, e.val), fun φ kx xs hk hx => ?_, fun j v e' => ?_, h⟩
      · obtain ⟨kk, vv, y, h1, h2, h3, rfl⟩ := concEs_cons hx
        exact ⟨some (i, vv), ⟨rfl, h2⟩, by simp only [Instr.findNow, hr φ kx kk hk h1]⟩
      · cases e'; exact ⟨Nat.le_refl _, e, by simp, rfl⟩
    | false =>
      obtain ⟨r, h1, h2, h3⟩ := findK_now (show findK (plainQ d) kv es (i + 1) k = true from h)
      refine ⟨r, fun φ kx xs hk hx => ?_, fun j v e' => ?_, h3⟩
      · obtain ⟨kk, vv, y, g1, g2, g3, rfl⟩ := concEs_cons hx
        obtain ⟨r', hf, hrun⟩ := h1 φ kx y hk g3
        exact ⟨r', hf, by simp only [Instr.findNow, hr φ kx kk hk g1]; exact hrun⟩
      · obtain ⟨g1, e0, g2, g3⟩ := h2 j v e'
        exact ⟨by omega, e0, by rw [show j - i = (j - (i + 1)) + 1 by omega]; simpa using g2, g3⟩

/-- Finding a key of a type. -/
structure CFind where
  go : AV → List Ent → (Option (Nat × AV) → Bool) → Bool
noncomputable def finds (K : Tab) (t : TypeId) : CFind :=
  match K.und t with
  | some (.struct _) => ⟨fun kv es k => (keyChk K t).go kv (findK (eqQ K t) kv es 0 k)⟩
  | some (.array _ _) => ⟨fun kv es k => (keyChk K t).go kv (findK (eqQ K t) kv es 0 k)⟩
  | some (.int i) => ⟨fun kv es k => findK (plainQ (.int i)) kv es 0 k⟩
  | some .string => ⟨fun kv es k => findK (plainQ .string) kv es 0 k⟩
  | some .bool => ⟨fun kv es k => findK (plainQ .bool) kv es 0 k⟩
  | _ => ⟨fun _ _ _ => false⟩

/-- The key may be one, and this is what is found. -/
structure Finds (K : Tab) (t : TypeId) (kv : AV) (es : List Ent) (r : Option (Nat × AV)) : Prop where
  chk : ∀ (φ : Phi) (w : World) (x : Value) (e : Bool), conc φ kv = some x → (Instr.checkKey e 10000 t x).run K.P w = .ok () w
  find : ∀ (φ : Phi) (w : World) (kx : Value) (xs : List MapEntry), conc φ kv = some kx → concEs φ es = some xs → ∃ r', FoundIs φ r r' ∧ (Instr.findKey t kx xs).run K.P w = .ok r' w
  there : ∀ j v, r = some (j, v) → ∃ e, es[j]? = some e ∧ e.val = v

theorem finds_plain {K : Tab} (hK : K.Ok) {t : TypeId} {d : TypeDesc} (hd : K.und t = some d) (hp : plainD d = true) {kv : AV} {es : List Ent} {k : Option (Nat × AV) → Bool}
    (h : findK (plainQ d) kv es 0 k = true) : ∃ r, Finds K t kv es r ∧ k r = true := by
  obtain ⟨r, h1, h2, h3⟩ := findK_now h
  refine ⟨r, ⟨fun φ w x e _ => chk_plain hK hd hp e 9999 x w, fun φ w kx xs hk hx => ?_, fun j v e => by simpa using (h2 j v e).2⟩, h3⟩
  obtain ⟨r', hf, hr⟩ := h1 φ kx xs hk hx
  refine ⟨r', hf, ?_⟩
  simp only [Instr.findKey, Sem.run_bind, hK.runUnd hd, Result.andThen_ok, hr, Sem.run_pure]

theorem finds_ok {K : Tab} (hK : K.Ok) {t : TypeId} {kv : AV} {es : List Ent} {k : Option (Nat × AV) → Bool} (h : (finds K t).go kv es k = true) : ∃ r, Finds K t kv es r ∧ k r = true := by
  unfold finds at h
  split at h
  · rename_i fs hs
    obtain ⟨hc, h⟩ := keyChk_ok hK h
    obtain ⟨r, h1, h2, h3⟩ := findK_ask (eqQ_good hK t) h
    refine ⟨r, ⟨hc, fun φ w kx xs hk hx => ?_, fun j v e => by simpa using (h2 j v e).2⟩, h3⟩
    obtain ⟨r', hf, hr⟩ := h1 φ w kx xs hk hx
    refine ⟨r', hf, ?_⟩
    simp only [Instr.findKey, Sem.run_bind, hK.runUnd hs, Result.andThen_ok]
    cases xs with
    | nil => cases hr; simp [Instr.findNow]
    | cons x xs => simpa [Instr.findNow, Instr.sameNow] using hr
  · rename_i n et hs
    obtain ⟨hc, h⟩ := keyChk_ok hK h
    obtain ⟨r, h1, h2, h3⟩ := findK_ask (eqQ_good hK t) h
    refine ⟨r, ⟨hc, fun φ w kx xs hk hx => ?_, fun j v e => by simpa using (h2 j v e).2⟩, h3⟩
    obtain ⟨r', hf, hr⟩ := h1 φ w kx xs hk hx
    refine ⟨r', hf, ?_⟩
    simp only [Instr.findKey, Sem.run_bind, hK.runUnd hs, Result.andThen_ok]
    cases xs with
    | nil => cases hr; simp [Instr.findNow]
    | cons x xs => simpa [Instr.findNow, Instr.sameNow] using hr
  · rename_i i hs; exact finds_plain hK hs rfl h
  · rename_i hs; exact finds_plain hK hs rfl h
  · rename_i hs; exact finds_plain hK hs rfl h
  · cases h

/-- A map's entries, as they lie. -/
theorem map_real {φ : Phi} {G : Nat → Option Blk} {w : World} (hw : WR φ G w) {b : Nat} {es : List Ent} {clock : Nat} {L : Loc} (hb : G b = some (.map es clock)) (hL : φ b = some L) :
    ∃ xs, concEs φ es = some xs ∧ w.heap[L.b]? = some (.map xs.toArray clock) := by
  obtain ⟨o, ho, hr⟩ := hw.real b _ L hb hL
  obtain ⟨xs, h1, rfl⟩ := hr
  exact ⟨xs, h1, ho⟩
theorem run_getObj {P : Program} {w : World} {b : Nat} {o : Obj} (h : w.heap[b]? = some o) (hc : ∀ c e f, o ≠ .cells c e f) : (getObj b).run P w = .ok o w := by
  simp only [getObj, Sem.run, h]

def okV (ok : Bool) (v : AV) (b : Bool) : AV := match ok with
  | true => .tup [v, .bool b]
  | false => v
theorem okV_conc {φ : Phi} {v : AV} {x : Value} (h : conc φ v = some x) (ok b : Bool) : conc φ (okV ok v b) = some (if ok then .tuple #[x, .bool b] else x) := by
  cases ok
  · exact h
  · exact conc_tup_mk (concs_cons_mk h (concs_cons_mk rfl rfl))

noncomputable def lLookup (K : Tab) (t : TypeId) (x ix : Operand) (ok : Bool) : CL :=
  match K.und t with
  | some (.map key elem) => match K.zero elem with
    | some z => ⟨fun T H k => (ce K.ng x).go T fun m => (ce K.ng ix).go T fun kv => match m with
      | .map none => (finds K key).go kv [] fun r => match r with
        | none => Bool.casesOn ok (k z) (k (.tup [z, .bool false]))
        | some _ => false
      | .map (some r) => Trie.getK (bits r) H.t false fun blk => match blk with
        | .map es _ => (finds K key).go kv es fun r => match r with
          | none => Bool.casesOn ok (k z) (k (.tup [z, .bool false]))
          | some (_, v) => Bool.casesOn ok (k v) (k (.tup [v, .bool true]))
        | _ => false
      | _ => false⟩
    | none => CL.none
  | _ => CL.none
theorem lLookup_good {K : Tab} (hK : K.Ok) (t : TypeId) (x ix : Operand) (ok : Bool) : CL.Good K (.lookup t x ix ok) (lLookup K t x ix ok) := fun T H k h => by
  unfold lLookup at h
  split at h
  · rename_i key elem hs
    split at h
    · rename_i z hz
      obtain ⟨m, hm, h⟩ := ce_ok h
      obtain ⟨kv, hkv, h⟩ := ce_ok h
      have hne : ∀ (φ : Phi) (w : World), (∃ zx, conc φ z = some zx ∧ (zeroValue elem).run K.P w = .ok zx w) := fun φ w => hK.runZero hz φ w
      match m, h with
      | .map none, h =>
        obtain ⟨r, hr, h⟩ := finds_ok hK h
        match r, h with
        | none, h =>
          refine ⟨okV ok z false, fun φ ac w hor hw => ?_, by cases ok <;> exact h⟩
          obtain ⟨zx, hzx, hrz⟩ := hne φ w
          refine ⟨_, okV_conc hzx ok false, fun o ho => ?_⟩
          have hp : ac.eval x = .map none := by have := hor x (by simp [Op.operands]) _ hm; simpa [conc] using this.symm
          have hk := hor ix (by simp [Op.operands]) _ hkv
          obtain ⟨r', hf, hrun⟩ := hr.find φ w _ [] hk rfl
          have hr' : r' = none := by
            cases r' with
            | none => rfl
            | some p => exact hf.elim
          subst hr'
          simp only [execOp, ho]
          refine run_value ?_
          simp [Instr.lookup, hK.runUnd hs, hp, hr.chk φ w _ _ hk, hrun, hrz]
      | .map (some b), h =>
        obtain ⟨blk, hb, h⟩ := getK_ok h
        match blk, h with
        | .map es clock, h =>
          obtain ⟨r, hr, h⟩ := finds_ok hK h
          match r, h with
          | none, h =>
            refine ⟨okV ok z false, fun φ ac w hor hw => ?_, by cases ok <;> exact h⟩
            obtain ⟨zx, hzx, hrz⟩ := hne φ w
            refine ⟨_, okV_conc hzx ok false, fun o ho => ?_⟩
            obtain ⟨L, hL, hp⟩ := conc_map (hor x (by simp [Op.operands]) _ hm)
            have hk := hor ix (by simp [Op.operands]) _ hkv
            obtain ⟨xs, hxs, hheap⟩ := map_real hw hb hL
            obtain ⟨r', hf, hrun⟩ := hr.find φ w _ xs hk hxs
            have hr' : r' = none := by
              cases r' with
              | none => rfl
              | some p => exact hf.elim
            subst hr'
            simp only [execOp, ho]
            refine run_value ?_
            simp [Instr.lookup, hK.runUnd hs, hp, run_getObj hheap (by simp), hr.chk φ w _ _ hk, hrun, hrz]
          | some (i, v), h =>
            refine ⟨okV ok v true, fun φ ac w hor hw => ?_, by cases ok <;> exact h⟩
            obtain ⟨L, hL, hp⟩ := conc_map (hor x (by simp [Op.operands]) _ hm)
            have hk := hor ix (by simp [Op.operands]) _ hkv
            obtain ⟨xs, hxs, hheap⟩ := map_real hw hb hL
            obtain ⟨r', hf, hrun⟩ := hr.find φ w _ xs hk hxs
            obtain ⟨j, y, rfl⟩ : ∃ j y, r' = some (j, y) := by cases r' with | none => exact hf.elim | some p => exact ⟨p.1, p.2, rfl⟩
            obtain ⟨_, hy⟩ := hf
            refine ⟨_, okV_conc hy ok true, fun o ho => ?_⟩
            simp only [execOp, ho]
            refine run_value ?_
            simp [Instr.lookup, hK.runUnd hs, hp, run_getObj hheap (by simp), hr.chk φ w _ _ hk, hrun]
    · cases h
  · cases h

end GoX
