/-
  FUNCTIONS: their bodies, their results, and who calls whom. No program is named here.
-/
import Derived.Test.YtbkldenjldejiaaXCode2
namespace GoX
open Go

/-! ### Choices and scopes -/
noncomputable def condC (K : Tab) (c : Operand) (x y : CC) : CC := ⟨fun T H k => (ce K.ng c).go T fun v => match v with
  | .bool b => Bool.casesOn b (y.go T H k) (x.go T H k)
  | _ => false⟩
theorem condC_good {K : Tab} {det : Bool} {n : Nat} {c : Operand} {a b : Code} {x y : CC} (hx : CC.Good K det n (fun Q s w => a.wp K.P Q s w) x) (hy : CC.Good K det n (fun Q s w => b.wp K.P Q s w) y) :
    CC.Good K det n (fun Q s w => (Code.cond c a b).wp K.P Q s w) (condC K c x y) := fun T H k h => by
  obtain ⟨v, hv, h⟩ := ce_ok h
  have key : ∀ (t : Bool), ev K.ng T c = some (.bool t) → CC.Can K det n (fun Q s w => (if t then a else b).wp K.P Q s w) T H k → CC.Can K det n (fun Q s w => (Code.cond c a b).wp K.P Q s w) T H k := by
    rintro t ht ⟨O, h1, h2, h3⟩
    refine ⟨O, h1, ⟨h2.1, h2.2.1, fun φ s w hT hg hw hfr Q hQ => ?_⟩, h3⟩
    have := hT.or hg [c] c (by simp) _ ht
    simp only [conc] at this
    injection this with this
    exact wp_cond this.symm (h2.2.2 φ s w hT hg hw hfr Q hQ)
  match v, hv, h with
  | .bool true, hv, h => exact key true hv (hx T H k h)
  | .bool false, hv, h => exact key false hv (hy T H k h)

noncomputable def scopeK (k : Ex → AT → AH → Bool) : Ex → AT → AH → Bool := fun e T H =>
  Ex.casesOn e (k .normal T H) (fun i => k (.exit i) T H) (fun _ => false) (k .ret T H)
theorem can_scope {K : Tab} {det : Bool} {n : Nat} {c : Code} {T : AT} {H : AH} {k : Ex → AT → AH → Bool} (h : CC.Can K det n (fun Q a w => c.wp K.P Q a w) T H (scopeK k)) :
    CC.Can K det n (fun Q a w => (Code.scope c).wp K.P Q a w) T H k := by
  obtain ⟨O, h1, h2, h3⟩ := h
  refine ⟨O, fun e T' H' hO => ?_, ⟨h2.1, h2.2.1, fun φ a w ht hg hw hfr Q hQ => ?_⟩, h3⟩
  · have := h1 _ _ _ hO
    cases e <;> first | exact this | cases this
  · refine wp_scope_straight (h2.2.2 φ a w ht hg hw hfr _ fun e T' H' ψ a' w' hO hgo ht' => ?_)
    have h4 := hQ e T' H' ψ a' w' hO hgo ht'
    cases e with
    | goto l => have := h1 _ _ _ hO; cases this
    | _ => exact h4

/-! ### All of a body -/
noncomputable def cc (K : Tab) (det : Bool) (n lf : Nat) (call : FuncId → CF) (dr : List Oper → CC) (c : Code) : CC :=
  Code.rec
    ⟨fun T H k => k .normal T H⟩
    (fun _ ops draw => Bool.casesOn draw (cOps K det n call ops.toList ops.toList) (dr ops.toList))
    (fun _ _ x y => seqC x y)
    (fun c _ _ x y => condC K c x y)
    (fun id _ x => ⟨fun T H k => x.go T H (blockK id k)⟩)
    (fun _ x => loopC x lf)
    (fun _ _ _ _ _ _ => CC.none)
    (fun id => ⟨fun T H k => k (.exit id) T H⟩)
    (fun _ x => ⟨fun T H k => x.go T H (scopeK k)⟩)
    (fun _ => ⟨fun T H k => k .normal T H⟩)
    (fun l => ⟨fun T H k => k (.goto l) T H⟩)
    ⟨fun T H k => k .ret T H⟩
    (fun _ => CC.none) c

theorem cc_good {K : Tab} (hK : K.Ok) {det : Bool} {n lf : Nat} {call : FuncId → CF} (hf : ∀ f, (call f).Good K det f) {dr : List Oper → CC}
    (hd : ∀ id ops, CC.Good K det n (fun Q a w => (Code.region id ops true).wp K.P Q a w) (dr ops.toList)) (c : Code) :
    CC.Good K det n (fun Q a w => c.wp K.P Q a w) (cc K det n lf call dr c) := by
  induction c with
  | skip => exact fun T H k h => can_one .normal h fun Q a w hq => wp_skip hq
  | region id ops draw =>
    cases draw with
    | true => exact hd id ops
    | false => exact fun T H k h => (cOps_good (n := n) hK hf ops.toList ops.toList T H k h).mono fun φ Q a w _ hh => wp_region_list (by simpa using hh)
  | seq x y hx hy => exact fun T H k h => can_then (hx T H _ h) hy fun Q a w hh => wp_seq hh
  | cond c x y hx hy => exact condC_good hx hy
  | block id x hx => exact fun T H k h => can_block (hx T H _ h)
  | loop x hx => exact fun T H k h => (loopC_good hx lf T H k h).mono fun φ Q a w _ hh => hh.wp
  | rangeFunc f ps x y => exact CC.none_good K det n _
  | exit id => exact fun T H k h => can_one (.exit id) h fun Q a w hq => wp_exit hq
  | scope x hx => exact fun T H k h => can_scope (hx T H _ h)
  | label l => exact fun T H k h => can_one .normal h fun Q a w hq => wp_label hq
  | goto l => exact fun T H k h => can_one (.goto l) h fun Q a w hq => wp_goto hq
  | ret => exact fun T H k h => can_one .ret h fun Q a w hq => wp_ret hq
  | refuse why => exact CC.none_good K det n _

/-! ### Results -/
structure CR where
  go : AT → AH → (List AV → Bool) → Bool
noncomputable def resC (K : Tab) (l : List ResultVar) : CR :=
  List.rec ⟨fun _ _ k => k []⟩ (fun r _ ih => ResultVar.casesOn r
    (fun t => ⟨fun T H k => Trie.getK (bits t) T false fun v => ih.go T H fun vs => k (v :: vs)⟩)
    (fun t ty => ⟨fun T H k => Trie.getK (bits t) T false fun v => match v with
      | .ptr (some a) => Trie.getK (bits a.1) H.t false fun blk => match blk with
        | .cells c _ _ => (cpart K ty).go c a.2 fun v => ih.go T H fun vs => k (v :: vs)
        | _ => false
      | _ => false⟩)) l

def resOp (tmps : Array Value) : ResultVar → Sem Value
  | .tmp t => pure (tmps.getD t undef)
  | .cell a t => do loadVar t (← asAddr (tmps.getD a undef))

theorem getT_ok {T : AT} {t : Nat} {k : AV → Bool} (h : Trie.getK (bits t) T false k = true) : ∃ v, T.get t = some v ∧ k v = true := by
  rw [Trie.getK_eq] at h
  show ∃ v, T.at' (bits t) = some v ∧ _
  cases ha : T.at' (bits t) with
  | none => rw [ha] at h; cases h
  | some v => rw [ha] at h; exact ⟨v, rfl, h⟩

theorem resC_ok {K : Tab} (hK : K.Ok) (n : Nat) : ∀ {l : List ResultVar} {T : AT} {H : AH} {k : List AV → Bool}, (resC K l).go T H k = true →
    ∃ vs, k vs = true ∧ ∀ (φ : Phi) (a : Act) (w : World), TR φ T n a → WR φ H.get w → ∃ xs, concs φ vs = some xs ∧ (l.mapM (resOp a.tmps)).run K.P w = .ok xs w
  | [], T, H, k, h => ⟨[], h, fun φ a w _ _ => ⟨[], rfl, by simp⟩⟩
  | .tmp t :: l, T, H, k, h => by
    obtain ⟨v, hv, h⟩ := getT_ok h
    obtain ⟨vs, h1, h2⟩ := resC_ok hK n (show (resC K l).go T H (fun vs => k (v :: vs)) = true from h)
    refine ⟨v :: vs, h1, fun φ a w ht hw => ?_⟩
    obtain ⟨xs, h3, h4⟩ := h2 φ a w ht hw
    exact ⟨_, concs_cons_mk (ht.val t v hv) h3, by simp [List.mapM_cons, resOp, h4]⟩
  | .cell t ty :: l, T, H, k, h => by
    obtain ⟨v, hv, h⟩ := getT_ok h
    match v, hv, h with
    | .ptr (some (b, o)), hv, h =>
      obtain ⟨blk, hb, h⟩ := getK_ok h
      match blk, hb, h with
      | .cells c e kd, hb, h =>
        obtain ⟨u, hu, h⟩ := cpart_ok h
        obtain ⟨vs, h1, h2⟩ := resC_ok hK n (show (resC K l).go T H (fun vs => k (u :: vs)) = true from h)
        refine ⟨u :: vs, h1, fun φ a w ht hw => ?_⟩
        obtain ⟨xs, h3, h4⟩ := h2 φ a w ht hw
        obtain ⟨L, hL, hp⟩ := conc_ptr (ht.val t _ hv)
        obtain ⟨cs, hcs, hc⟩ := cell_real hw hb hL
        obtain ⟨y, hy, hr⟩ := loadVar_of hK hu hcs hc
        exact ⟨_, concs_cons_mk hy h3, by simp [List.mapM_cons, resOp, hp, asAddr, hr, h4]⟩

noncomputable def oneK (k : AV → Bool) : List AV → Bool := fun l => List.casesOn l (k (.tup [])) fun v r => List.casesOn r (k v) fun u s => k (.tup (v :: u :: s))
def oneV : List AV → AV
  | [v] => v
  | l => .tup l
theorem oneK_eq (k : AV → Bool) (l : List AV) : oneK k l = k (oneV l) := by
  rcases l with _ | ⟨v, _ | ⟨u, s⟩⟩ <;> rfl
theorem oneV_conc {φ : Phi} {vs : List AV} {xs : List Value} (h : concs φ vs = some xs) : conc φ (oneV vs) = some (if h : xs.toArray.size = 1 then xs.toArray[0] else .tuple xs.toArray) := by
  have hl := concs_length h
  rcases vs with _ | ⟨v, _ | ⟨u, s⟩⟩
  · obtain rfl := concs_nil h; rfl
  · obtain ⟨x, y, h1, h2, rfl⟩ := concs_cons h
    obtain rfl := concs_nil h2
    simpa [oneV] using h1
  · rw [dif_neg (by simp at hl ⊢; omega)]
    exact conc_tup_mk h

/-! ### A function -/
noncomputable def endK (K : Tab) (rs : List ResultVar) (k : AV → AH → Bool) : Ex → AT → AH → Bool := fun e T H =>
  Ex.casesOn e ((resC K rs).go T H (oneK fun v => k v H)) (fun _ => false) (fun _ => false) ((resC K rs).go T H (oneK fun v => k v H))

noncomputable def cf (K : Tab) (det : Bool) (lf : Nat) (dr : Nat → (FuncId → CF) → List Oper → CC) (call : FuncId → CF) (f : FuncId) : CF :=
  match K.fns f with
  | some fn => match fn.body with
    | some c => ⟨fun args H k => cond (Nat.ble args.length fn.ntmps) (Trie.ofListK args 0 .leaf fun T => (cc K det fn.ntmps lf call (dr fn.ntmps call) c).go T H (endK K fn.results.toList k)) false⟩
    | none => CF.none
  | none => CF.none

def DrGood (K : Tab) (det : Bool) (dr : Nat → (FuncId → CF) → List Oper → CC) : Prop := ∀ n call, (∀ f, CF.Good K det f (call f)) →
  ∀ id ops, CC.Good K det n (fun Q a w => (Code.region id ops true).wp K.P Q a w) (dr n call ops.toList)

theorem run_results {K : Tab} {fn : Func} {tmps : Array Value} {w : World} {xs : List Value} (h : (fn.results.toList.mapM (resOp tmps)).run K.P w = .ok xs w) :
    (results fn tmps).run K.P w = .ok (if h : xs.toArray.size = 1 then xs.toArray[0] else .tuple xs.toArray) w := by
  have e : results fn tmps = (do let vs ← fn.results.mapM (resOp tmps); pure (if h : vs.size = 1 then vs[0] else .tuple vs)) := by
    unfold results
    congr 1
  rw [e]
  have hm : fn.results.mapM (resOp tmps) = List.toArray <$> fn.results.toList.mapM (resOp tmps) := by
    rw [← List.mapM_toArray]
  rw [hm]
  simp only [Sem.run_bind, Sem.run_map, h, Result.andThen_ok, Sem.run_pure]

theorem cf_good {K : Tab} (hK : K.Ok) (hN : ∀ (f : Nat) fn, K.P.funcs[f]? = some fn → (fn.name == "runtime.NumGoroutine") = false) {det : Bool} {lf : Nat} {dr : Nat → (FuncId → CF) → List Oper → CC}
    (hdr : DrGood K det dr) {call : FuncId → CF} (hf : ∀ f, (call f).Good K det f) (f : FuncId) : (cf K det lf dr call f).Good K det f := fun args H k h => by
  unfold cf at h
  split at h
  · rename_i fn hfn
    have hfn := hK.fns hfn
    split at h
    · rename_i c hc
      obtain ⟨hle, h⟩ := cond_true_of h
      have hle := ble_le hle
      rw [Trie.ofListK_eq] at h
      refine ⟨⟨fun as w => ?_⟩, ?_⟩
      · have := hN f fn hfn
        have h1 : ¬ fn.name = "runtime.NumGoroutine" := by simpa using this
        simp [callFunc, hfn, hc, h1]
      obtain ⟨O, h1, h2, h3⟩ := cc_good hK hf (hdr fn.ntmps call hf) c _ H _ h
      have hres : ∀ p : AT × AH, ∃ v, (∃ e, O e p.1 p.2) → k v p.2 = true ∧ (∀ e, O e p.1 p.2 → e = .normal ∨ e = .ret) ∧
          ∀ (φ : Phi) (a : Act) (w : World), TR φ p.1 fn.ntmps a → WR φ p.2.get w → ∃ x, conc φ v = some x ∧ (results fn a.tmps).run K.P w = .ok x w := fun p => by
        by_cases hp : ∃ e, O e p.1 p.2
        · have hee : ∀ e, O e p.1 p.2 → (e = .normal ∨ e = .ret) ∧ (resC K fn.results.toList).go p.1 p.2 (oneK fun v => k v p.2) = true := fun e he => by
            have := h1 _ _ _ he
            cases e with
            | normal => exact ⟨.inl rfl, this⟩
            | ret => exact ⟨.inr rfl, this⟩
            | exit i => cases this
            | goto l => cases this
          obtain ⟨e, he⟩ := hp
          obtain ⟨vs, g1, g2⟩ := resC_ok hK fn.ntmps (hee e he).2
          rw [oneK_eq] at g1
          refine ⟨oneV vs, fun _ => ⟨g1, fun e he => (hee e he).1, fun φ a w ht hw => ?_⟩⟩
          obtain ⟨xs, g3, g4⟩ := g2 φ a w ht hw
          exact ⟨_, oneV_conc g3, run_results g4⟩
        · exact ⟨unitA, fun h => absurd h hp⟩
      obtain ⟨F, hF⟩ := Classical.skolem.1 hres
      refine ⟨fun v H' => ∃ e T', O e T' H' ∧ v = F (T', H'), ?_, ⟨?_, ?_, fun φ xs w hxs hg hw hfr R hR => ?_⟩, fun hd => ?_⟩
      · rintro v H' ⟨e, T', hO, rfl⟩
        exact (hF (T', H') ⟨e, hO⟩).1
      · obtain ⟨e, T', H', hO⟩ := h2.1
        exact ⟨_, H', e, T', hO, rfl⟩
      · rintro v H' ⟨e, T', hO, rfl⟩
        exact h2.2.1 _ _ _ hO
      · have hlen := concs_length hxs
        have hTR : TR φ (Trie.ofList args 0 .leaf) fn.ntmps { tmps := xs.toArray ++ Array.replicate (fn.ntmps - xs.toArray.size) undef, defers := [] } := by
          refine ⟨fun i v hv => ?_, by simp; omega, rfl⟩
          rw [Trie.get_ofList] at hv
          simp only [Nat.not_lt_zero, if_false, Nat.zero_add, Nat.sub_zero] at hv
          split at hv
          · rename_i hlt
            obtain ⟨x, hx, hcx⟩ := concs_get i hxs hv
            rw [hcx]
            have hi : i < xs.length := by omega
            simp only [Array.getD_eq_getD_getElem?]
            rw [Array.getElem?_append_left (by simpa using hi)]
            simp [hx]
          · rw [Trie.get_leaf] at hv; cases hv
        refine calls_of_wp hfn hc (h2.2.2 φ _ w hTR hg hw (fun b hb ⟨e, T', H', hO, hlt⟩ => hfr b hb ⟨_, H', ⟨e, T', hO, rfl⟩, hlt⟩) _ fun e T' H' ψ a' w' hO hgo ht' => ?_)
        obtain ⟨_, he, hx⟩ := hF (T', H') ⟨e, hO⟩
        obtain ⟨x, g1, g2⟩ := hx ψ a' w' ht' hgo.wr
        have hpost := hR _ H' ψ x w' ⟨e, T', hO, rfl⟩ hgo g1
        rcases he e hO with rfl | rfl
        · exact ⟨ht'.defers, x, g2, hpost⟩
        · exact ⟨ht'.defers, x, g2, hpost⟩
      · obtain ⟨e, T', H', hone⟩ := h3 hd
        refine ⟨F (T', H'), H', ?_⟩
        rintro u I ⟨f', U, hO, rfl⟩
        obtain ⟨_, rfl, rfl⟩ := hone _ _ _ hO
        exact ⟨rfl, rfl⟩
    · cases h
  · cases h

/-- All functions, to a depth of calls. -/
noncomputable def den (K : Tab) (det : Bool) (lf : Nat) (dr : Nat → (FuncId → CF) → List Oper → CC) (d : Nat) : FuncId → CF :=
  Nat.rec (fun _ => CF.none) (fun _ ih => cf K det lf dr ih) d
theorem den_good {K : Tab} (hK : K.Ok) (hN : ∀ (f : Nat) fn, K.P.funcs[f]? = some fn → (fn.name == "runtime.NumGoroutine") = false) {det : Bool} {lf : Nat} {dr : Nat → (FuncId → CF) → List Oper → CC}
    (hdr : DrGood K det dr) : ∀ (d : Nat) (f : FuncId), (den K det lf dr d f).Good K det f
  | 0, f => CF.none_good K det f
  | d + 1, f => cf_good hK hN hdr (den_good hK hN hdr d) f

end GoX
