/-
  FUNCTIONS: their bodies, their results, and who calls whom. No program is named here.
-/
import Derived.Test.YtnmjhbnadfjapaaXCode2
namespace GoX
open Go

/-- A block that is written, and of which nothing more is told. -/
theorem goes_gone {φ : Phi} {G : Nat → Option Blk} (n : Nat) {w w' : World} (hw : WR φ G w) {b : Nat} {blk : Blk} {L : Loc} (hb : G b = some blk) (hm : blk.mine = true) (hL : φ b = some L)
    {obj : Obj} (hheap : w'.heap = w.heap.setIfInBounds L.b obj) (hos : w'.os = w.os) (hout : w'.output = w.output) : Goes φ G n w φ (upd G b none) n w' := by
  have hold : ∀ c bl, upd G b none c = some bl → c ≠ b ∧ G c = some bl := fun c bl hc => by
    by_cases hcb : c = b
    · subst hcb; simp only [upd, if_pos] at hc; cases hc
    · simp only [upd, if_neg hcb] at hc; exact ⟨hcb, hc⟩
  refine ⟨Phi.le_refl φ, fun c hc => absurd rfl hc, ⟨fun c bl M hc hM => ?_, fun c c' bl bl' M M' hc hc' hM hM' he => ?_⟩, fun c hc hno => ?_, by rw [hheap]; simp, fun c bl M hc hM => ?_, hos, hout⟩
  · obtain ⟨hcb, hc⟩ := hold c bl hc
    obtain ⟨ob, h1, h2⟩ := hw.real c bl M hc hM
    refine ⟨ob, ?_, h2⟩
    have hne : L.b ≠ M.b := fun e => hcb (hw.inj c b _ _ _ _ hc hb hM hL e.symm)
    rw [hheap, Array.getElem?_setIfInBounds_ne hne]; exact h1
  · exact hw.inj c c' _ _ M M' (hold c bl hc).2 (hold c' bl' hc').2 hM hM' he
  · have hne : L.b ≠ c := hno b blk L hb hm hL
    rw [hheap, Array.getElem?_setIfInBounds_ne hne]
  · exact .inr ⟨c, bl, M, (hold c bl hc).2, hM, rfl, id⟩

/-! ### Choices and scopes -/
noncomputable def condC (K : Tab) (c : Operand) (x y : CC) : CC := ⟨fun T H k => (ce K.ng c).go T fun v => match v with
  | .bool b => Bool.casesOn b (y.go T H k) (x.go T H k)
  | _ => false⟩
/-- A piece of code, in every frame of the makes S. -/
def InS (K : Tab) (S : Option Nat → Prop) (c : Code) (Q : Post) (a : Act) (w : World) : Prop := ∀ R, S R → c.wpIn (FR R) 0 K.P Q a w
theorem condC_good {K : Tab} {det : Bool} {n : Nat} {S : Option Nat → Prop} {c : Operand} {a b : Code} {x y : CC} (hx : CC.Good K det n (InS K S a) x) (hy : CC.Good K det n (InS K S b) y) :
    CC.Good K det n (InS K S (Code.cond c a b)) (condC K c x y) := fun T H k h => by
  obtain ⟨v, hv, h⟩ := ce_ok h
  have key : ∀ (t : Bool), ev K.ng T c = some (.bool t) → CC.Can K det n (InS K S (if t then a else b)) T H k → CC.Can K det n (InS K S (Code.cond c a b)) T H k := by
    rintro t ht ⟨O, h1, h2, h3⟩
    refine ⟨O, h1, ⟨h2.1, h2.2.1, fun φ s w hT hg hw hfr Q hQ => ?_⟩, h3⟩
    have := hT.or hg [c] c (by simp) _ ht
    simp only [conc] at this
    injection this with this
    exact fun R hR => wpIn_cond this.symm (h2.2.2 φ s w hT hg hw hfr Q hQ R hR)
  match v, hv, h with
  | .bool true, hv, h => exact key true hv (hx T H k h)
  | .bool false, hv, h => exact key false hv (hy T H k h)

noncomputable def scopeK (k : Ex → AT → AH → Bool) : Ex → AT → AH → Bool := fun e T H =>
  Ex.casesOn e (k .normal T H) (fun i => k (.exit i) T H) (fun _ => false) (k .ret T H)
theorem wide_none {R : Option Nat} (h : R = none) : FR R = Fence.wide := by subst h; rfl
theorem can_scope {K : Tab} {det : Bool} {n : Nat} {S : Option Nat → Prop} (hS : ∀ R, S R → R = none) {c : Code} {T : AT} {H : AH} {k : Ex → AT → AH → Bool} (h : CC.Can K det n (InS K S c) T H (scopeK k)) :
    CC.Can K det n (InS K S (Code.scope c)) T H k := by
  obtain ⟨O, h1, h2, h3⟩ := h
  refine ⟨O, fun e T' H' hO => ?_, ⟨h2.1, h2.2.1, fun φ a w ht hg hw hfr Q hQ R hR => ?_⟩, h3⟩
  · have := h1 _ _ _ hO
    cases e <;> first | exact this | cases this
  · rw [wide_none (hS R hR), wpIn_wide]
    refine wp_scope_straight ?_
    have := h2.2.2 φ a w ht hg hw hfr (Exit.noGoto Q) (fun e T' H' ψ a' w' hO hgo ht' => ?_) R hR
    · rwa [wide_none (hS R hR), wpIn_wide] at this
    · have h4 := hQ e T' H' ψ a' w' hO hgo ht'
      cases e with
      | goto l => have := h1 _ _ _ hO; cases this
      | _ => exact h4

/-! ### Loops over functions -/
def plainOp : Op → Bool
  | .defer _ => false
  | _ => true
def allPlain : List Oper → Bool
  | [] => true
  | o :: l => plainOp o.op && allPlain l
theorem plainOp_ok {op : Op} (h : plainOp op = true) : ∀ c, op ≠ .defer c := fun c e => by subst e; cases h
theorem allPlain_ok : ∀ {l : List Oper}, allPlain l = true → ∀ o ∈ l, ∀ c, o.op ≠ .defer c
  | [], _, o, ho => by cases ho
  | x :: l, h, o, ho => by
    simp only [allPlain, Bool.and_eq_true] at h
    rcases List.mem_cons.1 ho with rfl | ho
    · exact plainOp_ok h.1
    · exact allPlain_ok h.2 o ho
/-- Code without deferred calls, without scopes, without loops over functions. -/
noncomputable def plainC (c : Code) : Bool :=
  Code.rec true (fun _ ops _ => allPlain ops.toList) (fun _ _ x y => x && y) (fun _ _ _ x y => x && y) (fun _ _ x => x) (fun _ x => x) (fun _ _ _ _ _ _ => false) (fun _ => true) (fun _ _ => false) (fun _ => true) (fun _ => true) true (fun _ => true) c

noncomputable def goneK (H : AH) (b : Nat) (k : AH → Bool) : Bool := Trie.putK (bits b) H.t none fun t => k ⟨H.next, t⟩
def AH.gone (H : AH) (b : Nat) : AH := ⟨H.next, H.t.set b none⟩
theorem AH.gone_get (H : AH) (b : Nat) : (H.gone b).get = upd H.get b none := AH.get_set H H.next b _
theorem goneK_eq (H : AH) (b : Nat) (k : AH → Bool) : goneK H b k = k (H.gone b) := by unfold goneK; rw [Trie.putK_eq]; rfl

/-- The statement: a block for the rounds' deferred calls, the loop's record, the call of the function; behind it the record is gone. -/
noncomputable def rangeC (K : Tab) (n : Nat) (call : FuncId → CF) (g : Operand) (ps : Array Tmp) (x y : Code) : CC := ⟨fun T H k => (ce K.ng g).go T fun v => match v with
  | .fn (.func f) first captured => Trie.getK (bits n) T (newBlkK H .dfr fun b0 H => newBlkK H (.loop T n ps.toList x y false) fun b1 H =>
      appK first (.yld b1 :: captured) fun as => cond (isMark as) false ((call f).go as H fun _ H => Trie.getK (bits b1) H.t false fun blk => match blk with
        | .loop _ _ _ _ _ false => goneK H b1 fun H => Trie.putK (bits n) T (some (.mark b0)) fun T => k .normal T H
        | _ => false)) fun _ => false
  | _ => false⟩

theorem rangeC_good {K : Tab} {det : Bool} {n : Nat} {call : FuncId → CF} (hf : ∀ f, (call f).Good K det f) {S : Option Nat → Prop} (hS : ∀ R, S R → R = none) (g : Operand) (ps : Array Tmp) (x y : Code) :
    CC.Good K det n (InS K S (Code.rangeFunc g ps x y)) (rangeC K n call g ps x y) := fun T H k h => by
  obtain ⟨v, hv, h⟩ := ce_ok h
  match v, hv, h with
  | .fn (.func f) first captured, hv, h =>
  change Trie.getK (bits n) T _ _ = true at h
  rw [Trie.getK_eq] at h
  cases hT : T.at' (bits n) with
  | some m => rw [hT] at h; cases h
  | none =>
  rw [hT] at h
  simp only at h
  have hTn : T.get n = none := hT
  obtain ⟨H1, g1, n1, h⟩ := newBlkK_ok h
  obtain ⟨H2, g2, n2, h⟩ := newBlkK_ok h
  rw [n1] at g2 n2 h
  rw [appK_eq] at h
  obtain ⟨hnm, h⟩ := cond_false_of h
  obtain ⟨hen, O, h1, h2, h3⟩ := hf f _ H2 _ h
  have hen := hen hnm
  have hend : ∀ u I, O u I → (∃ T' n' ps' x' y', I.get (H.next + 1) = some (.loop T' n' ps' x' y' false)) ∧ k .normal (T.set n (some (.mark H.next))) (I.gone (H.next + 1)) = true := fun u I hO => by
    have := h1 u I hO
    obtain ⟨blk, hb, hh⟩ := getK_ok this
    match blk, hb, hh with
    | .loop T' n' ps' x' y' false, hb, hh =>
      rw [goneK_eq, Trie.putK_eq] at hh
      exact ⟨⟨_, _, _, _, _, hb⟩, hh⟩
  refine ⟨fun e T' I => e = .normal ∧ T' = T.set n (some (.mark H.next)) ∧ ∃ u J, O u J ∧ I = J.gone (H.next + 1), ?_, ⟨?_, ?_, fun φ a w ht hg hw hfr Q hQ R hR => ?_⟩, fun hd => ?_⟩
  · rintro e T' I ⟨rfl, rfl, u, J, hO, rfl⟩
    exact (hend u J hO).2
  · obtain ⟨u, J, hO⟩ := h2.1
    exact ⟨_, _, _, rfl, rfl, u, J, hO, rfl⟩
  · rintro e T' I ⟨rfl, rfl, u, J, hO, rfl⟩
    have := h2.2.1 u J hO
    show H.next ≤ J.next
    omega
  · have hJ : ∃ u J, O u J := h2.1
    obtain ⟨u0, J0, hO0⟩ := hJ
    have hJ0 := h2.2.1 u0 J0 hO0
    have hlow : ∀ b, H.next ≤ b → (∃ u J, O u J ∧ b < J.next) → φ b = none := fun b hb ⟨u, J, hO, hlt⟩ => hfr b hb ⟨_, _, _, ⟨rfl, rfl, u, J, hO, rfl⟩, hlt⟩
    have hφ0 : φ H.next = none := hlow _ (Nat.le_refl _) ⟨u0, J0, hO0, by omega⟩
    have hφ1 : φ (H.next + 1) = none := hlow _ (by omega) ⟨u0, J0, hO0, by omega⟩
    have hds : a.defers = [] := by have := ht.defers; unfold DF at this; rw [hTn] at this; exact this
    rw [wide_none (hS R hR)]
    refine wpIn_rangeFunc fun fn _ => ?_
    have hG : ∃ φ2 w2, Goes φ H.get H.next w φ2 H2.get H2.next w2 ∧ (Instr.enterLoop fn a.tmps ps x y none).run K.P w = .ok (w.heap.size + 1, [{ target := .collected w.heap.size, args := #[] }]) w2 ∧
        φ2 H.next = some ⟨w.heap.size, 0, 0⟩ ∧ φ2 (H.next + 1) = some ⟨w.heap.size + 1, 0, 0⟩ ∧ ∀ b, H.next + 2 ≤ b → φ b = none → φ2 b = none := by
      have hG1 := goes_new (w' := w.alloc (.deferred (some []))) (obj := .deferred (some [])) (blk := .dfr) (o := 0) (k := 0) hw hφ0 rfl rfl rfl rfl
      have hle1 := hG1.le
      have hφ1' : (upd φ H.next (some ⟨w.heap.size, 0, 0⟩)) (H.next + 1) = none := by
        simp only [upd]
        rw [if_neg (by omega)]
        exact hφ1
      have hreal : Real (upd (upd φ H.next (some ⟨w.heap.size, 0, 0⟩)) (H.next + 1) (some ⟨(w.alloc (.deferred (some []))).heap.size, 0, 0⟩)) ⟨(w.alloc (.deferred (some []))).heap.size, 0, 0⟩
          (.loop { state := .ready, pending := none, fn, tmps := a.tmps, params := ps, assign := x, body := y, defers := w.heap.size }) (.loop T n ps.toList x y false) :=
        ⟨_, rfl, rfl, rfl, rfl, rfl, rfl, ht.size, fun i v hv => conc_mono (Phi.le_trans hle1 (Phi.le_upd hφ1' _)) v (ht.val i v hv), hTn⟩
      have hG2 := goes_new (w' := (w.alloc (.deferred (some []))).alloc (.loop { state := .ready, pending := none, fn, tmps := a.tmps, params := ps, assign := x, body := y, defers := w.heap.size })) hG1.wr hφ1' hreal rfl rfl rfl
      rw [← g1, ← g2] at hG2
      rw [← g1] at hG1
      refine ⟨upd (upd φ H.next (some ⟨w.heap.size, 0, 0⟩)) (H.next + 1) (some ⟨(w.alloc (.deferred (some []))).heap.size, 0, 0⟩), _, ?_, run_enterLoop_outer fn a.tmps ps x y, ?_, ?_, fun b h1 h2 => ?_⟩
      · rw [n2]
        exact hG1.trans (by omega) (by omega) hG2
      · simp [upd]
      · simp [upd]
      · simp only [upd]
        rw [if_neg (by omega), if_neg (by omega)]
        exact h2
    obtain ⟨φ2, w2, hG, henter, hD, hl, hnew⟩ := hG
    have hle := hG.le
    obtain ⟨fs, cs, h4, h5, h6⟩ := conc_fn ((ht.or hg [g]) g (by simp) _ hv)
    have hyl : conc φ2 (.yld (H.next + 1)) = some (.func (.yield (w.heap.size + 1)) #[] #[]) := by simp [conc, hl]
    have hargs := concs_append (concs_mono hle _ h4) (concs_cons_mk hyl (concs_mono hle _ h5))
    have hcall := h2.2.2 φ2 _ w2 hargs (hg.le hle) hG.wr (fun b hb ⟨u, J, hO, hlt⟩ => hnew b (by omega) (hlow b (by omega) ⟨u, J, hO, hlt⟩))
      (rangePost Fence.wide 0 K.P (w.heap.size + 1) Q { a with defers := [{ target := .collected w.heap.size, args := #[] }] ++ a.defers }) fun u J ψ z w' hO hgo hz => ?_
    · refine ⟨w.heap.size + 1, [{ target := .collected w.heap.size, args := #[] }], w2, ⟨.fn (.func f) cs.toArray, fs.toArray ++ #[.func (.yield (w.heap.size + 1)) #[] #[]]⟩, w2, f, _, w2, henter, ?_, fun _ _ => trivial, ?_, fun hd => (by cases hd), callsIn_wide.2 ((Runs.calls hnm).1 hcall)⟩
      · simp only [resolve, h6, Deferred.ofValue]
        simp [Act.eval]
      · simp only [invoke]
        have harr : fs.toArray ++ #[Value.func (.yield (w.heap.size + 1)) #[] #[]] ++ cs.toArray = (fs ++ (Value.func (.yield (w.heap.size + 1)) #[] #[] :: cs)).toArray := by
          apply Array.ext'; simp
        rw [harr]
        exact hen.enter _ _
    · obtain ⟨⟨T', n', ps', x', y', hb⟩, -⟩ := hend u J hO
      have hL : ψ (H.next + 1) = some ⟨w.heap.size + 1, 0, 0⟩ := hgo.le _ _ hl
      obtain ⟨o, ho, ⟨rst, rpe, rfn, rtm, rps, rx, ry, rdf⟩, rfl, hst, hpe, -⟩ := hgo.wr.real _ _ _ hb hL
      obtain rfl : rst = .ready := hst
      obtain rfl : rpe = none := hpe
      refine ⟨_, _, run_endLoop ho (by simp), ?_⟩
      have hG3 := goes_gone J.next hgo.wr hb rfl hL (w' := w'.putObj (w.heap.size + 1) (.loop ⟨.exhausted, none, rfn, rtm, rps, rx, ry, rdf⟩)) (obj := .loop ⟨.exhausted, none, rfn, rtm, rps, rx, ry, rdf⟩) rfl rfl rfl
      rw [← AH.gone_get] at hG3
      have hGall := (hG.trans (by omega) (by have := h2.2.1 u J hO; omega) hgo).trans (by have := h2.2.1 u J hO; omega) (Nat.le_refl _) hG3
      refine hQ .normal _ _ ψ _ _ ⟨rfl, rfl, u, J, hO, rfl⟩ hGall ⟨fun i v hi => ?_, ht.size, ?_⟩
      · rw [Trie.get_set] at hi
        by_cases hin : i = n
        · subst hin
          rw [if_pos rfl] at hi
          cases hi
          have hsz := ht.size
          simp [conc, Array.getD_eq_getD_getElem?, ← hsz, undef]
        · rw [if_neg hin] at hi
          exact conc_mono hGall.le v (ht.val i v hi)
      · unfold DF
        rw [Trie.get_set, if_pos rfl]
        exact ⟨⟨w.heap.size, 0, 0⟩, hgo.le _ _ hD, by rw [hds]; rfl⟩
  · obtain ⟨u, J, hone⟩ := h3 hd
    refine ⟨.normal, T.set n (some (.mark H.next)), J.gone (H.next + 1), ?_⟩
    rintro f' U I ⟨rfl, rfl, u', J', hO, rfl⟩
    obtain ⟨rfl, rfl⟩ := hone _ _ hO
    exact ⟨rfl, rfl, rfl⟩

/-! ### All of a body -/
noncomputable def cc (K : Tab) (det top : Bool) (n lf : Nat) (call : FuncId → CF) (dr : List Oper → CC) (c : Code) : CC :=
  Code.rec
    ⟨fun T H k => k .normal T H⟩
    (fun _ ops draw => Bool.casesOn draw (cOps K det n call ops.toList ops.toList) (dr ops.toList))
    (fun _ _ x y => seqC x y)
    (fun c _ _ x y => condC K c x y)
    (fun id _ x => ⟨fun T H k => x.go T H (blockK id k)⟩)
    (fun _ x => loopC x lf)
    (fun g ps x y _ _ => Bool.casesOn top CC.none (rangeC K n call g ps x y))
    (fun id => ⟨fun T H k => k (.exit id) T H⟩)
    (fun _ x => ⟨fun T H k => x.go T H (scopeK k)⟩)
    (fun _ => ⟨fun T H k => k .normal T H⟩)
    (fun l => ⟨fun T H k => k (.goto l) T H⟩)
    ⟨fun T H k => k .ret T H⟩
    (fun _ => CC.none) c

/-- A region that draws, in all orders. -/
def opAt (P : Program) (ops : Array Oper) (Q : Post) (i : Nat) (N : Act → World → Prop) (a : Act) (w : World) : Prop :=
  match ops[i]? with
  | none => N a w
  | some o => opW P ops o N Q a w
def AnyW (P : Program) (ops : Array Oper) (Q : Post) : Nat → Array Bool → Act → World → Prop
  | 0, listed, a, w => Region.ready .any ops listed = [] ∧ Q .normal a w
  | fuel + 1, listed, a, w => (Region.ready .any ops listed = [] → Q .normal a w) ∧ ∀ i ∈ Region.ready .any ops listed, opAt P ops Q i (AnyW P ops Q fuel (listed.setIfInBounds i true)) a w
theorem anyW_in {P : Program} {ops : Array Oper} {Q : Post} (R : Option Nat) (hR : R = none ∨ ∀ o ∈ ops.toList, ∀ c, o.op ≠ .defer c) : ∀ (fuel : Nat) (listed : Array Bool) (a : Act) (w : World),
    AnyW P ops Q fuel listed a w → wpAnyIn (FR R) 0 P .any ops Q fuel listed a w
  | 0, _, _, _, h => h
  | fuel + 1, listed, a, w, h => by
    refine ⟨h.1, fun i hi => ?_⟩
    have := h.2 i hi
    unfold opAt at this
    unfold wpOpIn
    cases ho : ops[i]? with
    | none =>
      rw [ho] at this
      exact anyW_in R hR fuel _ _ _ this
    | some o =>
      rw [ho] at this
      refine opW_in R (hR.imp id fun h => h o ?_) this fun _ _ h => anyW_in R hR fuel _ _ _ h
      obtain ⟨hlt, rfl⟩ := Array.getElem?_eq_some_iff.1 ho
      simp
def DrawW (P : Program) (ops : Array Oper) (Q : Post) (a : Act) (w : World) : Prop := AnyW P ops Q ops.size (Array.replicate ops.size false) a { w with drawn := w.drawn + 1 }

theorem then_in {K : Tab} {S : Option Nat → Prop} {y : Code} {Q : Post} {R : Option Nat} (hR : S R) (e : Exit) (a : Act) (w : World) (h : Exit.then (InS K S y Q) Q e a w) : Exit.then (y.wpIn (FR R) 0 K.P Q) Q e a w := by
  cases e <;> first | exact h R hR | exact h
def RoundsS (K : Tab) (S : Option Nat → Prop) (c : Code) (fuel : Nat) (Q : Post) (a : Act) (w : World) : Prop := ∀ R, S R → Code.roundsIn (FR R) 0 K.P c Q fuel a w
theorem loopS_good {K : Tab} {det : Bool} {n : Nat} {S : Option Nat → Prop} {c : Code} {b : CC} (hb : CC.Good K det n (InS K S c) b) : ∀ fuel, CC.Good K det n (RoundsS K S c fuel) (loopC b fuel)
  | 0 => CC.none_good K det n _
  | fuel + 1 => fun T H _k h => can_then (hb T H _ h) (loopS_good hb fuel) fun _Q _a _w hh R hR => wpIn_mono (hh R hR) fun e a w he => by
    cases e <;> first | exact he R hR | exact he
theorem can_blockS {K : Tab} {det : Bool} {n : Nat} {S : Option Nat → Prop} {c : Code} {T : AT} {H : AH} {k : Ex → AT → AH → Bool} {id : Nat} (h : CC.Can K det n (InS K S c) T H (blockK id k)) :
    CC.Can K det n (InS K S (Code.block id c)) T H k := by
  obtain ⟨O, h1, h2, h3⟩ := h
  refine ⟨fun e T' H' => ∃ e', O e' T' H' ∧ e = blockE id e', fun e T' H' ⟨e', hO, he⟩ => ?_, ⟨?_, fun e T' H' ⟨e', hO, _⟩ => h2.2.1 _ _ _ hO, fun φ a w ht hg hw hfr Q hQ R hR => ?_⟩, fun hd => ?_⟩
  · have := h1 _ _ _ hO
    rw [blockK_eq] at this
    rw [he]; exact this
  · obtain ⟨e, T', H', hO⟩ := h2.1
    exact ⟨_, T', H', e, hO, rfl⟩
  · exact wpIn_block (h2.2.2 φ a w ht hg hw (fun b hb ⟨e, T', H', hO, hlt⟩ => hfr b hb ⟨_, T', H', ⟨e, hO, rfl⟩, hlt⟩) _ (fun e T' H' ψ a' w' hO hgo ht' => block_to (hQ _ T' H' ψ a' w' ⟨e, hO, rfl⟩ hgo ht')) R hR)
  · obtain ⟨e, T', H', hone⟩ := h3 hd
    exact ⟨_, T', H', fun f U I ⟨e', hO, hf⟩ => by obtain ⟨rfl, rfl, rfl⟩ := hone _ _ _ hO; exact ⟨hf, rfl, rfl⟩⟩

theorem cc_good {K : Tab} (hK : K.Ok) {det top : Bool} {n lf : Nat} {call : FuncId → CF} (hf : ∀ f, (call f).Good K det f) {dr : List Oper → CC}
    (hd : ∀ ops : Array Oper, CC.Good K det n (DrawW K.P ops) (dr ops.toList)) {S : Option Nat → Prop} (ht : top = true → ∀ R, S R → R = none) (c : Code) (hc : (∀ R, S R → R = none) ∨ plainC c = true) :
    CC.Good K det n (InS K S c) (cc K det top n lf call dr c) := by
  induction c with
  | skip => exact fun T H k h => can_one .normal h fun Q a w hq R _ => wpIn_skip hq
  | region id ops draw =>
    have hpl : ∀ R, S R → R = none ∨ ∀ o ∈ ops.toList, ∀ c, o.op ≠ .defer c := fun R hR => hc.imp (fun h => h R hR) fun h => allPlain_ok h
    cases draw with
    | true => exact fun T H k h => (hd ops T H k h).mono fun φ Q a w _ hh R hR => wpIn_region_any hK.mixed (anyW_in R (hpl R hR) _ _ _ _ hh)
    | false => exact fun T H k h => (cOps_good (n := n) hK hf ops.toList ops.toList T H k h).mono fun φ Q a w _ hh R hR => wpIn_region_list (listW_in R _ (hpl R hR) (by simpa using hh))
  | seq x y hx hy =>
    have h1 : (∀ R, S R → R = none) ∨ plainC x = true := hc.imp id fun h => by have h : (plainC x && plainC y) = true := h; simp only [Bool.and_eq_true] at h; exact h.1
    have h2 : (∀ R, S R → R = none) ∨ plainC y = true := hc.imp id fun h => by have h : (plainC x && plainC y) = true := h; simp only [Bool.and_eq_true] at h; exact h.2
    exact fun T H k h => can_then (hx h1 T H _ h) (hy h2) fun Q a w hh R hR => wpIn_seq (wpIn_mono (hh R hR) (then_in hR))
  | cond c x y hx hy =>
    have h1 : (∀ R, S R → R = none) ∨ plainC x = true := hc.imp id fun h => by have h : (plainC x && plainC y) = true := h; simp only [Bool.and_eq_true] at h; exact h.1
    have h2 : (∀ R, S R → R = none) ∨ plainC y = true := hc.imp id fun h => by have h : (plainC x && plainC y) = true := h; simp only [Bool.and_eq_true] at h; exact h.2
    exact condC_good (hx h1) (hy h2)
  | block bid x hx => exact fun T H k h => can_blockS (hx (hc.imp id fun h => h) T H _ h)
  | loop x hx => exact fun T H k h => (loopS_good (hx (hc.imp id fun h => h)) lf T H k h).mono fun φ Q a w _ hh R hR => wpIn_loop_rounds lf (hh R hR)
  | rangeFunc f ps x y =>
    cases top with
    | true => exact rangeC_good hf (ht rfl) f ps x y
    | false => exact CC.none_good K det n _
  | exit id => exact fun T H k h => can_one (.exit id) h fun Q a w hq R _ => wpIn_exit hq
  | scope x hx =>
    rcases hc with hc | hc
    · exact fun T H k h => can_scope hc (hx (.inl hc) T H _ h)
    · cases hc
  | label l => exact fun T H k h => can_one .normal h fun Q a w hq R _ => wpIn_label hq
  | goto l => exact fun T H k h => can_one (.goto l) h fun Q a w hq R _ => wpIn_goto hq
  | ret => exact fun T H k h => can_one .ret h fun Q a w hq R _ => wpIn_ret hq
  | refuse why => exact CC.none_good K det n _

/-! ### Jumps -/
theorem can_bind {K : Tab} {det : Bool} {n : Nat} {W₁ W : Post → Act → World → Prop} {W₂ : Ex → Post → Act → World → Prop} {T : AT} {H : AH} {J : Ex → CC} {k : Ex → AT → AH → Bool}
    (hx : CC.Can K det n W₁ T H fun e T H => (J e).go T H k) (hy : ∀ e, CC.Good K det n (W₂ e) (J e)) (hW : ∀ Q a w, W₁ (fun e a w => ∃ x : Ex, e = x.to ∧ W₂ x Q a w) a w → W Q a w) : CC.Can K det n W T H k := by
  obtain ⟨O, h1, h2, h3⟩ := hx
  have hex : ∀ p : Ex × AT × AH, ∃ O₂ : Ex → AT → AH → Prop, O p.1 p.2.1 p.2.2 →
      (∀ e T' H', O₂ e T' H' → k e T' H' = true) ∧ SimW K n (W₂ p.1) p.2.1 p.2.2.get p.2.2.next O₂ ∧ (det = true → One3 O₂) := fun p => by
    by_cases hO : O p.1 p.2.1 p.2.2
    · obtain ⟨O₂, g⟩ := hy p.1 p.2.1 p.2.2 k (h1 _ _ _ hO)
      exact ⟨O₂, fun _ => g⟩
    · exact ⟨fun _ _ _ => False, fun h => absurd h hO⟩
  obtain ⟨F, hF⟩ := Classical.skolem.1 hex
  refine ⟨fun e T' H' => ∃ x U I, O x U I ∧ F (x, U, I) e T' H', ?_, ⟨?_, ?_, fun φ a w ht hg hw hfr Q hQ => ?_⟩, fun hd => ?_⟩
  · rintro e T' H' ⟨x, U, I, hO, hf⟩
    exact (hF (x, U, I) hO).1 _ _ _ hf
  · obtain ⟨e, T', H', hO⟩ := h2.1
    obtain ⟨e2, T2, H2, hO2⟩ := (hF (e, T', H') hO).2.1.1
    exact ⟨e2, T2, H2, e, T', H', hO, hO2⟩
  · rintro e T' H' ⟨x, U, I, hO, hf⟩
    exact Nat.le_trans (h2.2.1 _ _ _ hO) ((hF (x, U, I) hO).2.1.2.1 _ _ _ hf)
  · apply hW
    refine h2.2.2 φ a w ht hg hw (fun b hb hex => ?_) _ fun e T' H' ψ a' w' hO hgo ht' => ?_
    · obtain ⟨e, T', H', hO, hlt⟩ := hex
      obtain ⟨e2, T2, H2, hO2⟩ := (hF (e, T', H') hO).2.1.1
      exact hfr b hb ⟨e2, T2, H2, ⟨e, T', H', hO, hO2⟩, Nat.lt_of_lt_of_le hlt ((hF (e, T', H') hO).2.1.2.1 _ _ _ hO2)⟩
    · refine ⟨e, rfl, (hF (e, T', H') hO).2.1.2.2 ψ a' w' ht' (hg.le hgo.le) hgo.wr (fun b hb hex => ?_) Q fun e2 T2 H2 χ a2 w2 hO2 hgo2 ht2 => ?_⟩
      · obtain ⟨e2, T2, H2, hO2, hlt⟩ := hex
        have hφ : φ b = .none := hfr b (Nat.le_trans (h2.2.1 _ _ _ hO) hb) ⟨e2, T2, H2, ⟨e, T', H', hO, hO2⟩, hlt⟩
        by_cases hne : ψ b = φ b
        · rw [hne, hφ]
        · exact absurd (hgo.new b hne).2 (by simp only at hb; omega)
      · exact hQ e2 T2 H2 χ a2 w2 ⟨e, T', H', hO, hO2⟩ (hgo.trans (h2.2.1 _ _ _ hO) ((hF (e, T', H') hO).2.1.2.1 _ _ _ hO2) hgo2) ht2
  · obtain ⟨e, T', H', hone⟩ := h3 hd
    by_cases he : O e T' H'
    · obtain ⟨e2, T2, H2, hone2⟩ := (hF (e, T', H') he).2.2 hd
      refine ⟨e2, T2, H2, ?_⟩
      rintro f U I ⟨x, U', I', hO, hf⟩
      obtain ⟨rfl, rfl, rfl⟩ := hone _ _ _ hO
      exact hone2 _ _ _ hf
    · refine ⟨e, T', H', ?_⟩
      rintro f U I ⟨x, U', I', hO, hf⟩
      obtain ⟨rfl, rfl, rfl⟩ := hone _ _ _ hO
      exact absurd hO he
/-- Code in a scope whose body is c: jumps to its labels go on there, at most so many. -/
def ScopeW (P : Program) (c : Code) : Nat → Code → Post → Act → World → Prop
  | 0, _, _, _, _ => False
  | n + 1, x, Q, a, w => x.wp P (fun e a w => match e with
    | .goto l => match findLabel c l with
      | some r => ScopeW P c n r Q a w
      | none => False
    | e => Q e a w) a w
theorem scopeW_lies {P : Program} {c : Code} {Q : Post} (b : Frame) (k : List Item) (cs : List Frame) : ∀ (n : Nat) (x : Code) (a : Act) (w : World), ScopeW P c n x Q a w →
    ∃ e a' w', Q e a' w' ∧ Arrives P (lone (b.at a (.code x :: .inScope c :: k)) cs w) b k cs e a' w'
  | 0, _, _, _, h => h.elim
  | n + 1, x, a, w, h => by
    obtain ⟨e, a₁, w₁, hq, harr⟩ := h b (.inScope c :: k) cs
    cases e with
    | normal => exact ⟨.normal, a₁, w₁, hq, Steps.trans harr (.one step_inScope)⟩
    | exit id => exact ⟨.exit id, a₁, w₁, hq, fun k' hk => harr k' (by simp [exitTo, hk])⟩
    | goto l =>
      simp only at hq
      cases hf : findLabel c l with
      | none => rw [hf] at hq; exact hq.elim
      | some r =>
        rw [hf] at hq
        have hg : gotoIn l (.inScope c :: k) = some (.code r :: .inScope c :: k) := by simp [gotoIn, hf]
        obtain ⟨e₂, a₂, w₂, hq₂, harr₂⟩ := scopeW_lies b k cs n r a₁ w₁ hq
        exact ⟨e₂, a₂, w₂, hq₂, .of_steps (harr _ hg) harr₂⟩
    | ret => exact ⟨_, a₁, w₁, hq, harr⟩
    | panic ch => exact ⟨_, a₁, w₁, hq, harr⟩
    | outgrown => exact ⟨_, a₁, w₁, hq, harr⟩
theorem scopeW_wp {P : Program} {c : Code} {Q : Post} {n : Nat} {a : Act} {w : World} (h : ScopeW P c n c Q a w) : (Code.scope c).wp P Q a w := by
  intro b k cs
  obtain ⟨e, a₁, w₁, hq, harr⟩ := scopeW_lies b k cs n c a w h
  refine ⟨e, a₁, w₁, hq, ?_⟩
  cases e with
  | normal => exact .head step_scope harr
  | exit id => exact fun k' hk => .head step_scope (harr k' hk)
  | goto l => exact fun k' hk => .head step_scope (harr k' hk)
  | ret => exact .of_steps (.one step_scope) harr
  | panic ch => exact .of_steps (.one step_scope) harr
  | outgrown => exact .of_steps (.one step_scope) harr

noncomputable def jumpE (c : Code) (run : Code → CC) (e : Ex) : CC := Ex.casesOn e ⟨fun T H k => k .normal T H⟩ (fun i => ⟨fun T H k => k (.exit i) T H⟩)
  (fun l => match findLabel c l with
    | some r => run r
    | none => CC.none) ⟨fun T H k => k .ret T H⟩
noncomputable def scopeC (den : Code → CC) (c : Code) (fuel : Nat) : Code → CC := Nat.rec (fun _ => CC.none) (fun _ ih x => ⟨fun T H k => (den x).go T H fun e T H => (jumpE c ih e).go T H k⟩) fuel
def JumpW (P : Program) (c : Code) (n : Nat) (e : Ex) (Q : Post) (a : Act) (w : World) : Prop := match e with
  | .goto l => match findLabel c l with
    | some r => ScopeW P c n r Q a w
    | none => False
  | e => Q e.to a w
theorem jumpE_good {K : Tab} {det : Bool} {n : Nat} {c : Code} {run : Code → CC} {m : Nat} (h : ∀ x, CC.Good K det n (ScopeW K.P c m x) (run x)) (e : Ex) : CC.Good K det n (JumpW K.P c m e) (jumpE c run e) := by
  cases e with
  | normal => exact fun T H k h => can_one .normal h fun Q a w hq => hq
  | exit i => exact fun T H k h => can_one (.exit i) h fun Q a w hq => hq
  | ret => exact fun T H k h => can_one .ret h fun Q a w hq => hq
  | goto l =>
    unfold jumpE JumpW
    simp only
    cases findLabel c l with
    | none => exact CC.none_good K det n _
    | some r => exact h r
theorem scopeC_good {K : Tab} {det : Bool} {n : Nat} {den : Code → CC} (hden : ∀ x, CC.Good K det n (fun Q a w => x.wp K.P Q a w) (den x)) (c : Code) : ∀ (fuel : Nat) (x : Code), CC.Good K det n (ScopeW K.P c fuel x) (scopeC den c fuel x)
  | 0, _ => CC.none_good K det n _
  | fuel + 1, x => fun T H k h => by
    refine can_bind (J := jumpE c (scopeC den c fuel)) (hden x T H _ h) (fun e => jumpE_good (scopeC_good hden c fuel) e) fun Q a w hh => ?_
    refine Code.wp_mono (fun e a w ⟨x, he, hx⟩ => ?_) hh
    subst he
    cases x <;> exact hx
/-- A body: a scope on its spine may be jumped about in. -/
noncomputable def ccTop (den : Code → CC) (lf : Nat) (c : Code) : CC :=
  Code.rec (motive := fun _ => CC) (den .skip) (fun i o d => den (.region i o d)) (fun a _ _ ih => seqC (den a) ih) (fun c a b _ _ => den (.cond c a b)) (fun i x _ => den (.block i x)) (fun x _ => den (.loop x))
    (fun f p x y _ _ => den (.rangeFunc f p x y)) (fun i => den (.exit i)) (fun x _ => scopeC den x lf x) (fun l => den (.label l)) (fun l => den (.goto l)) (den .ret) (fun s => den (.refuse s)) c
theorem ccTop_good {K : Tab} {det : Bool} {n : Nat} {den : Code → CC} (hden : ∀ x, CC.Good K det n (fun Q a w => x.wp K.P Q a w) (den x)) {lf : Nat} (c : Code) : CC.Good K det n (fun Q a w => c.wp K.P Q a w) (ccTop den lf c) := by
  induction c with
  | seq x y hx hy => exact fun T H k h => can_then (hden x T H _ h) hy fun Q a w hh => wp_seq hh
  | scope x hx => exact fun T H k h => (scopeC_good hden x lf x T H k h).mono fun φ Q a w _ hh => scopeW_wp hh
  | _ => exact hden _

/-! ### Results -/
structure CR where
  go : AT → AH → (List AV → Bool) → Bool
noncomputable def resC (K : Tab) (l : List ResultVar) : CR :=
  List.rec ⟨fun _ _ k => k []⟩ (fun r _ ih => ResultVar.casesOn r
    (fun t => ⟨fun T H k => Trie.getK (bits t) T false fun v => ih.go T H fun vs => k (v :: vs)⟩)
    (fun t ty => ⟨fun T H k => Trie.getK (bits t) T false fun v => match v with
      | .ptr (some a) => Trie.getK (bits a.1) H.t false fun blk => match blk with
        | .cells c _ _ => (cpart K ty).go c a.2 fun v => ih.go T H fun vs => k (v :: vs)
        | _ => false
      | _ => false⟩)) l

def resOp (tmps : Array Value) : ResultVar → Sem Value
  | .tmp t => pure (tmps.getD t undef)
  | .cell a t => do loadVar t (← asAddr (tmps.getD a undef))

theorem getT_ok {T : AT} {t : Nat} {k : AV → Bool} (h : Trie.getK (bits t) T false k = true) : ∃ v, T.get t = some v ∧ k v = true := by
  rw [Trie.getK_eq] at h
  show ∃ v, T.at' (bits t) = some v ∧ _
  cases ha : T.at' (bits t) with
  | none => rw [ha] at h; cases h
  | some v => rw [ha] at h; exact ⟨v, rfl, h⟩

theorem resC_ok {K : Tab} (hK : K.Ok) (n : Nat) : ∀ {l : List ResultVar} {T : AT} {H : AH} {k : List AV → Bool}, (resC K l).go T H k = true →
    ∃ vs, k vs = true ∧ ∀ (φ : Phi) (a : Act) (w : World), TR φ T n a → WR φ H.get w → ∃ xs, concs φ vs = some xs ∧ (l.mapM (resOp a.tmps)).run K.P w = .ok xs w
  | [], T, H, k, h => ⟨[], h, fun φ a w _ _ => ⟨[], rfl, by simp⟩⟩
  | .tmp t :: l, T, H, k, h => by
    obtain ⟨v, hv, h⟩ := getT_ok h
    obtain ⟨vs, h1, h2⟩ := resC_ok hK n (show (resC K l).go T H (fun vs => k (v :: vs)) = true from h)
    refine ⟨v :: vs, h1, fun φ a w ht hw => ?_⟩
    obtain ⟨xs, h3, h4⟩ := h2 φ a w ht hw
    exact ⟨_, concs_cons_mk (ht.val t v hv) h3, by simp [List.mapM_cons, resOp, h4]⟩
  | .cell t ty :: l, T, H, k, h => by
    obtain ⟨v, hv, h⟩ := getT_ok h
    match v, hv, h with
    | .ptr (some (b, o)), hv, h =>
      obtain ⟨blk, hb, h⟩ := getK_ok h
      match blk, hb, h with
      | .cells c e kd, hb, h =>
        obtain ⟨u, hu, h⟩ := cpart_ok h
        obtain ⟨vs, h1, h2⟩ := resC_ok hK n (show (resC K l).go T H (fun vs => k (u :: vs)) = true from h)
        refine ⟨u :: vs, h1, fun φ a w ht hw => ?_⟩
        obtain ⟨xs, h3, h4⟩ := h2 φ a w ht hw
        obtain ⟨L, hL, hp⟩ := conc_ptr (ht.val t _ hv)
        obtain ⟨cs, hcs, hc⟩ := cell_real hw hb hL
        obtain ⟨y, hy, hr⟩ := loadVar_of hK hu hcs hc
        exact ⟨_, concs_cons_mk hy h3, by simp [List.mapM_cons, resOp, hp, asAddr, hr, h4]⟩

noncomputable def oneK (k : AV → Bool) : List AV → Bool := fun l => List.casesOn l (k (.tup [])) fun v r => List.casesOn r (k v) fun u s => k (.tup (v :: u :: s))
def oneV : List AV → AV
  | [v] => v
  | l => .tup l
theorem oneK_eq (k : AV → Bool) (l : List AV) : oneK k l = k (oneV l) := by
  rcases l with _ | ⟨v, _ | ⟨u, s⟩⟩ <;> rfl
theorem oneV_conc {φ : Phi} {vs : List AV} {xs : List Value} (h : concs φ vs = some xs) : conc φ (oneV vs) = some (if h : xs.toArray.size = 1 then xs.toArray[0] else .tuple xs.toArray) := by
  have hl := concs_length h
  rcases vs with _ | ⟨v, _ | ⟨u, s⟩⟩
  · obtain rfl := concs_nil h; rfl
  · obtain ⟨x, y, h1, h2, rfl⟩ := concs_cons h
    obtain rfl := concs_nil h2
    simpa [oneV] using h1
  · rw [dif_neg (by simp at hl ⊢; omega)]
    exact conc_tup_mk h

/-! ### A round -/
noncomputable def flipK (b : Nat) (want : Bool) (H : AH) (k : AH → Bool) : Bool := Trie.getK (bits b) H.t false fun blk => match blk with
  | .loop T n ps x y busy => cond (Bool.casesOn want busy (Bool.casesOn busy true false)) (putBlkK H b (.loop T n ps x y want) k) false
  | _ => false
/-- The record with its other state. -/
def AH.flip (H : AH) (b : Nat) (want : Bool) : AH := match H.get b with
  | some (.loop T n ps x y _) => ⟨H.next, H.t.set b (some (.loop T n ps x y want))⟩
  | _ => H
theorem flipK_ok {b : Nat} {want : Bool} {H : AH} {k : AH → Bool} (h : flipK b want H k = true) : ∃ T n ps x y, H.get b = some (.loop T n ps x y (!want)) ∧ (H.flip b want).get = upd H.get b (some (.loop T n ps x y want)) ∧ (H.flip b want).next = H.next ∧ k (H.flip b want) = true := by
  obtain ⟨blk, hb, h⟩ := getK_ok h
  match blk, hb, h with
  | .loop T n ps x y busy, hb, h =>
    obtain ⟨h1, h2⟩ := cond_true_of h
    have hbz : busy = !want := by cases want <;> cases busy <;> first | rfl | cases h1
    subst hbz
    have e : H.flip b want = ⟨H.next, H.t.set b (some (.loop T n ps x y want))⟩ := by unfold AH.flip; rw [hb]
    refine ⟨T, n, ps, x, y, hb, ?_, ?_, ?_⟩
    · rw [e]; exact AH.get_set H H.next b _
    · rw [e]
    · rw [e]
      unfold putBlkK at h2
      rw [Trie.putK_eq] at h2
      exact h2
theorem flip_goes {φ : Phi} {H : AH} {w : World} {b : Nat} {want : Bool} {L : Loc} {T : AT} {n : Nat} {ps : List Nat} {x y : Code} (m : Nat) (hw : WR φ H.get w) (hb : H.get b = some (.loop T n ps x y (!want))) (hL : φ b = some L)
    (hf : (H.flip b want).get = upd H.get b (some (.loop T n ps x y want))) :
    ∃ r : Loop, w.heap[L.b]? = some (.loop r) ∧ r.state = (if want then .ready else .busy) ∧ r.pending = none ∧
      ∀ w' : World, w' = w.putObj L.b (.loop { r with state := (if want then .busy else .ready), pending := none }) → Goes φ H.get m w φ (H.flip b want).get m w' := by
  obtain ⟨o, ho, r, rfl, h1, h2, h3⟩ := hw.real _ _ _ hb hL
  refine ⟨r, ho, ?_, h2, fun w' hw' => ?_⟩
  · rw [h1]; cases want <;> rfl
  · subst hw'
    rw [hf]
    exact goes_set m hw hb rfl hL (obj := .loop { r with state := (if want then .busy else .ready), pending := none }) ⟨_, rfl, rfl, rfl, h3⟩ rfl rfl rfl

noncomputable def setsK : List Nat → List AV → AT → (AT → Bool) → Bool
  | [], [], T, k => k T
  | p :: ps, v :: vs, T, k => Trie.putK (bits p) T (some v) fun T => setsK ps vs T k
  | _, _, _, _ => false
def setsT : List Nat → List AV → AT → AT
  | p :: ps, v :: vs, T => setsT ps vs (T.set p (some v))
  | _, _, T => T
theorem setsK_ok : ∀ {ps : List Nat} {vs : List AV} {T : AT} {k : AT → Bool}, setsK ps vs T k = true → vs.length = ps.length ∧ k (setsT ps vs T) = true
  | [], [], _, _, h => ⟨rfl, h⟩
  | [], _ :: _, _, _, h => by cases h
  | _ :: _, [], _, _, h => by cases h
  | p :: ps, v :: vs, T, k, h => by
    have h : Trie.putK (bits p) T (some v) (fun T => setsK ps vs T k) = true := h
    rw [Trie.putK_eq] at h
    obtain ⟨h1, h2⟩ := setsK_ok h
    exact ⟨by simp [h1], h2⟩
def allLt (n : Nat) : List Nat → Bool
  | [] => true
  | p :: ps => Nat.blt p n && allLt n ps
theorem sets_TR {φ : Phi} {n : Nat} : ∀ {ps : List Nat} {vs : List AV} {xs : List Value} {T : AT} {tm : Array Value}, concs φ vs = some xs → allLt n ps = true → TR φ T n { tmps := tm, defers := [] } →
    TR φ (setsT ps vs T) n { tmps := (ps.zip xs).foldl (fun tm (t, a) => tm.setIfInBounds t a) tm, defers := [] }
  | [], vs, xs, T, tm, _, _, h => by cases vs <;> exact h
  | _ :: _, [], xs, T, tm, hc, _, h => by rw [concs_nil hc]; exact h
  | p :: ps, v :: vs, xs, T, tm, hc, hp, h => by
    obtain ⟨x, ys, h1, h2, rfl⟩ := concs_cons hc
    simp only [allLt, Bool.and_eq_true] at hp
    have h3 := h.put (d := some p) (fun i hi => by cases hi; exact blt_lt hp.1) h1
    exact sets_TR (ps := ps) (vs := vs) (xs := ys) h2 hp.2 h3

/-- A round of a loop over a function: the loop's left sides are set; its body. -/
noncomputable def roundF (K : Tab) (det : Bool) (lf : Nat) (dr : Nat → (FuncId → CF) → List Oper → CC) (call : FuncId → CF) (b : Nat) (vs : List AV) (H : AH) (k : AV → AH → Bool) : Bool :=
  Trie.getK (bits b) H.t false fun blk => match blk with
    | .loop T n ps x y false => cond (plainC x && (plainC y && allLt n ps)) (setsK ps vs T fun T =>
        (cc K det false n lf call (dr n call) x).go T H fun e T H => Ex.casesOn e (flipK b true H fun H =>
          (cc K det false n lf call (dr n call) y).go T H fun e _ H => Ex.casesOn e (flipK b false H fun H => k (.bool true) H) (fun _ => false) (fun _ => false) false) (fun _ => false) (fun _ => false) false) false
    | _ => false

def DrGood (K : Tab) (det : Bool) (dr : Nat → (FuncId → CF) → List Oper → CC) : Prop := ∀ n call, (∀ f, CF.Good K det f (call f)) →
  ∀ ops : Array Oper, CC.Good K det n (DrawW K.P ops) (dr n call ops.toList)

theorem roundF_good {K : Tab} (hK : K.Ok) {det : Bool} {lf : Nat} {dr : Nat → (FuncId → CF) → List Oper → CC} (hdr : DrGood K det dr) {call : FuncId → CF} (hf : ∀ f, (call f).Good K det f) (f : FuncId)
    (b : Nat) (vs : List AV) (H : AH) (k : AV → AH → Bool) (h : roundF K det lf dr call b vs H k = true) :
    ∃ O : AV → AH → Prop, (∀ v H', O v H' → k v H' = true) ∧ SimF K f (.mark b :: vs) H.get H.next O ∧ (det = true → One O) := by
  obtain ⟨blk, hb, h⟩ := getK_ok h
  match blk, hb, h with
  | .loop T n ps x y false, hb, h =>
  obtain ⟨hp, h⟩ := cond_true_of h
  simp only [Bool.and_eq_true] at hp
  obtain ⟨hpx, hpy, hps⟩ := hp
  obtain ⟨hlen, h⟩ := setsK_ok h
  have hdr' := fun ops => hdr n call hf ops
  obtain ⟨OA, a1, a2, a3⟩ := cc_good (top := false) (lf := lf) hK hf hdr' (S := fun R => R ≠ none) (fun e => by cases e) x (.inr hpx) _ _ _ h
  have hflipA : ∀ e U I, OA e U I → e = .normal ∧ ∃ T' n' ps' x' y', I.get b = some (.loop T' n' ps' x' y' (!true)) ∧ (I.flip b true).get = upd I.get b (some (.loop T' n' ps' x' y' true)) ∧ (I.flip b true).next = I.next ∧
      (cc K det false n lf call (dr n call) y).go U (I.flip b true) (fun e _ H => Ex.casesOn e (flipK b false H fun H => k (.bool true) H) (fun _ => false) (fun _ => false) false) = true := fun e U I hO => by
    have := a1 e U I hO
    cases e with
    | normal =>
      obtain ⟨T', n', ps', x', y', g1, g2, g3, g4⟩ := flipK_ok this
      exact ⟨rfl, T', n', ps', x', y', g1, g2, g3, g4⟩
    | _ => cases this
  have hex : ∀ p : AT × AH, ∃ OB : Ex → AT → AH → Prop, OA .normal p.1 p.2 →
      (∀ e U I, OB e U I → Ex.casesOn (motive := fun _ => Bool) e (flipK b false I fun H => k (.bool true) H) (fun _ => false) (fun _ => false) false = true) ∧ SimW K n (InS K (fun R => R ≠ none) y) p.1 (p.2.flip b true).get (p.2.flip b true).next OB ∧ (det = true → One3 OB) := fun p => by
    by_cases hO : OA .normal p.1 p.2
    · obtain ⟨_, _, _, _, _, _, _, _, _, g4⟩ := hflipA _ _ _ hO
      obtain ⟨OB, g⟩ := cc_good (top := false) (lf := lf) hK hf hdr' (S := fun R => R ≠ none) (fun e => by cases e) y (.inr hpy) _ _ _ g4
      exact ⟨OB, fun _ => g⟩
    · exact ⟨fun _ _ _ => False, fun h => absurd h hO⟩
  obtain ⟨F, hF⟩ := Classical.skolem.1 hex
  have hflipB : ∀ U I, OA .normal U I → ∀ e V J, F (U, I) e V J → e = .normal ∧ ∃ T' n' ps' x' y', J.get b = some (.loop T' n' ps' x' y' (!false)) ∧ (J.flip b false).get = upd J.get b (some (.loop T' n' ps' x' y' false)) ∧ (J.flip b false).next = J.next ∧
      k (.bool true) (J.flip b false) = true := fun U I hO e V J hJ => by
    have := (hF (U, I) hO).1 e V J hJ
    cases e with
    | normal =>
      obtain ⟨T', n', ps', x', y', g1, g2, g3, g4⟩ := flipK_ok this
      exact ⟨rfl, T', n', ps', x', y', g1, g2, g3, g4⟩
    | _ => cases this
  refine ⟨fun v I' => ∃ U I V J, OA .normal U I ∧ F (U, I) .normal V J ∧ v = .bool true ∧ I' = J.flip b false, ?_, ⟨?_, ?_, fun φ xs w hx hg hw hfr R hR => ?_⟩, fun hd => ?_⟩
  · rintro v I' ⟨U, I, V, J, hO, hJ, rfl, rfl⟩
    obtain ⟨_, _, _, _, _, _, _, _, _, g4⟩ := hflipB U I hO _ V J hJ
    exact g4
  · obtain ⟨e, U, I, hO⟩ := a2.1
    obtain ⟨rfl, -⟩ := hflipA _ _ _ hO
    obtain ⟨e, V, J, hJ⟩ := (hF (U, I) hO).2.1.1
    obtain ⟨rfl, -⟩ := hflipB U I hO _ _ _ hJ
    exact ⟨_, _, U, I, V, J, hO, hJ, rfl, rfl⟩
  · rintro v I' ⟨U, I, V, J, hO, hJ, rfl, rfl⟩
    obtain ⟨_, _, _, _, _, _, _, _, g3, _⟩ := hflipA _ _ _ hO
    obtain ⟨_, _, _, _, _, _, _, _, g5, _⟩ := hflipB U I hO _ _ _ hJ
    have h1 := a2.2.1 _ _ _ hO
    have h2 := (hF (U, I) hO).2.1.2.1 _ _ _ hJ
    simp only [g3] at h2
    omega
  · intro L hL
    obtain ⟨x0, ys, h0, h7, rfl⟩ := concs_cons hx
    obtain ⟨o, ho, r, rfl, hst, hpe, hpa, rfl, rfl, hsz, hval, hTn⟩ := hw.real _ _ _ hb hL
    have hst : r.state = .ready := hst
    refine ⟨_, _, _, _, run_yield ho ?_, ?_⟩
    · have h1 := concs_length h7
      have h2 := congrArg List.length hpa
      simp only [Array.length_toList] at h2
      simp only [List.tail_cons, List.size_toArray]
      omega
    have hfold : (r.params.zip (List.tail (x0 :: ys)).toArray).foldl (fun tmps (t, a) => tmps.setIfInBounds t a) r.tmps = (ps.zip ys).foldl (fun tm (t, a) => tm.setIfInBounds t a) r.tmps := by
      rw [← Array.foldl_toList, Array.toList_zip, hpa]
      rfl
    rw [hfold]
    have hTR := sets_TR (tm := r.tmps) h7 hps ⟨hval, hsz, DF.none hTn⟩
    refine roundIn_of_wpIn trivial ?_
    have hlowA : ∀ c, H.next ≤ c → (∃ e U I, OA e U I ∧ c < I.next) → φ c = none := fun c hc ⟨e, U, I, hO, hlt⟩ => by
      obtain ⟨rfl, _, _, _, _, _, _, _, g3, _⟩ := hflipA _ _ _ hO
      obtain ⟨e, V, J, hJ⟩ := (hF (U, I) hO).2.1.1
      obtain ⟨rfl, _, _, _, _, _, _, _, g5, _⟩ := hflipB U I hO _ _ _ hJ
      have h2 := (hF (U, I) hO).2.1.2.1 _ _ _ hJ
      simp only [g3] at h2
      exact hfr c hc ⟨_, _, ⟨U, I, V, J, hO, hJ, rfl, rfl⟩, by omega⟩
    refine a2.2.2 φ _ w hTR hg hw hlowA _ (fun e U I ψ a' w1 hO hgo ht' => ?_) (some L.b) (by simp)
    obtain ⟨rfl, T', n', ps', x', y', q1, q2, q3, q4⟩ := hflipA _ _ _ hO
    have hL1 := hgo.le _ _ hL
    obtain ⟨r1, ho1, hs1, hpe1, hflip⟩ := flip_goes I.next hgo.wr q1 hL1 q2
    have hs1 : r1.state = .ready := hs1
    refine ⟨_, run_beginRound ho1 hs1, ?_⟩
    have hG2 := hflip (w1.putObj L.b (.loop { r1 with state := .busy })) (by rw [← hpe1]; rfl)
    have hlowB : ∀ c, (I.flip b true).next ≤ c → (∃ e V J, F (U, I) e V J ∧ c < J.next) → ψ c = none := fun c hc ⟨e, V, J, hJ, hlt⟩ => by
      obtain ⟨rfl, _, _, _, _, _, _, _, g5, _⟩ := hflipB U I hO _ _ _ hJ
      rw [q3] at hc
      have h1 := a2.2.1 _ _ _ hO
      have hφ : φ c = none := hfr c (by omega) ⟨_, _, ⟨U, I, V, J, hO, hJ, rfl, rfl⟩, by omega⟩
      by_cases hne : ψ c = φ c
      · rw [hne, hφ]
      · have := (hgo.new c hne).2; omega
    refine (hF (U, I) hO).2.1.2.2 ψ a' _ ht' (hg.le hgo.le) hG2.wr hlowB _ (fun e V J χ a2' w3 hJ hgo2 ht2 => ?_) (some L.b) (by simp)
    obtain ⟨rfl, T2, n2, ps2, x2, y2, p1, p2, p3, p4⟩ := hflipB U I hO _ _ _ hJ
    have hL2 := hgo2.le _ _ hL1
    obtain ⟨r2, ho2, hs2, hpe2, hflip2⟩ := flip_goes J.next hgo2.wr p1 hL2 p2
    refine ⟨_, _, run_endRound none ho2, ?_⟩
    have hG4 := hflip2 (w3.putObj L.b (.loop { r2 with state := .ready, pending := none })) rfl
    have h1 := a2.2.1 _ _ _ hO
    have h2 := (hF (U, I) hO).2.1.2.1 _ _ _ hJ
    have hall := ((hgo.trans h1 (Nat.le_refl _) hG2).trans (n'' := J.next) h1 (by simpa only [q3] using h2) (by simpa only [q3] using hgo2)).trans (n'' := J.next) (by simp only [q3] at h2; omega) (Nat.le_refl _) hG4
    exact hR _ _ χ _ _ ⟨U, I, V, J, hO, hJ, rfl, rfl⟩ (by rw [p3]; exact hall) rfl
  · obtain ⟨e, U, I, honeA⟩ := a3 hd
    by_cases hO : OA .normal U I
    · obtain ⟨e2, V, J, honeB⟩ := (hF (U, I) hO).2.2 hd
      refine ⟨.bool true, J.flip b false, ?_⟩
      rintro v I' ⟨U', I', V', J', hO', hJ', rfl, rfl⟩
      obtain ⟨_, rfl, rfl⟩ := honeA _ _ _ hO'
      obtain ⟨_, rfl, rfl⟩ := honeB _ _ _ hJ'
      exact ⟨rfl, rfl⟩
    · refine ⟨.bool true, H, ?_⟩
      rintro v I' ⟨U', I', V', J', hO', hJ', rfl, rfl⟩
      obtain ⟨rfl, rfl, rfl⟩ := honeA _ _ _ hO'
      exact absurd hO' hO

/-! ### A function -/
/-- Behind a loop over a function: the block for its rounds' deferred calls, of which there are none, is shut. -/
noncomputable def leaveK (n : Nat) (T : AT) (H : AH) (k : AH → Bool) : Bool := Trie.getK (bits n) T (k H) fun m => match m with
  | .mark b => Trie.getK (bits b) H.t false fun blk => match blk with
    | .dfr => goneK H b k
    | _ => false
  | _ => false
def leave (n : Nat) (T : AT) (H : AH) : AH := match T.get n with
  | some (.mark b) => H.gone b
  | _ => H
theorem leaveK_ok {n : Nat} {T : AT} {H : AH} {k : AH → Bool} (h : leaveK n T H k = true) : (T.get n = none ∨ ∃ b, T.get n = some (.mark b) ∧ H.get b = some .dfr) ∧ k (leave n T H) = true := by
  unfold leaveK at h
  rw [Trie.getK_eq] at h
  unfold leave
  cases hT : T.at' (bits n) with
  | none =>
    rw [hT] at h
    have e : T.get n = none := hT
    rw [e]
    exact ⟨.inl rfl, h⟩
  | some m =>
    rw [hT] at h
    have e : T.get n = some m := hT
    rw [e]
    match m, h with
    | .mark b, h =>
      obtain ⟨blk, hb, h⟩ := getK_ok h
      match blk, hb, h with
      | .dfr, hb, h =>
        rw [goneK_eq] at h
        exact ⟨.inr ⟨b, rfl, hb⟩, h⟩
theorem leave_next (n : Nat) (T : AT) (H : AH) : (leave n T H).next = H.next := by
  unfold leave
  split <;> rfl
/-- The way out of a function. -/
theorem leaves_of {K : Tab} {φ : Phi} {n : Nat} {T : AT} {H : AH} {m : Nat} {a : Act} {w : World} {fn : Func} {R : Ending → World → Prop} (ht : TR φ T n a) (hw : WR φ H.get w) (h : T.get n = none ∨ ∃ b, T.get n = some (.mark b) ∧ H.get b = some .dfr)
    (hR : ∀ w', Goes φ H.get m w φ (leave n T H).get m w' → ∃ v, (results fn a.tmps).run K.P w' = .ok v w' ∧ R (.returned v) w') : LeavesInM Fence.wide 0 K.P fn a.tmps R a.defers .returning w := by
  have hd := ht.defers
  unfold DF at hd
  rcases h with h | ⟨b, h, hb⟩
  · rw [h] at hd
    simp only at hd
    rw [hd]
    have e : leave n T H = H := by unfold leave; rw [h]
    rw [e] at hR
    exact hR w (Goes.refl hw)
  · rw [h] at hd
    obtain ⟨L, hL, hd⟩ := hd
    rw [hd]
    obtain ⟨o, ho, rfl⟩ := hw.real _ _ _ hb hL
    have e : leave n T H = H.gone b := by unfold leave; rw [h]
    rw [e, AH.gone_get] at hR
    exact ⟨by simp, .inl ⟨L.b, _, rfl, run_takeDeferred ho, hR _ (goes_gone m hw hb rfl hL (obj := .deferred none) rfl rfl rfl)⟩⟩

noncomputable def endK (K : Tab) (n : Nat) (rs : List ResultVar) (k : AV → AH → Bool) : Ex → AT → AH → Bool := fun e T H =>
  Ex.casesOn e (leaveK n T H fun H => (resC K rs).go T H (oneK fun v => k v H)) (fun _ => false) (fun _ => false) (leaveK n T H fun H => (resC K rs).go T H (oneK fun v => k v H))

noncomputable def cfN (K : Tab) (det : Bool) (lf : Nat) (dr : Nat → (FuncId → CF) → List Oper → CC) (call : FuncId → CF) (f : FuncId) : CF :=
  match K.fns f with
  | some fn => match fn.body with
    | some c => ⟨fun args H k => cond (Nat.ble args.length fn.ntmps) (Trie.ofListK args 0 .leaf fun T => (ccTop (cc K det true fn.ntmps lf call (dr fn.ntmps call)) lf c).go T H (endK K fn.ntmps fn.results.toList k)) false⟩
    | none => CF.none
  | none => CF.none
noncomputable def cf (K : Tab) (det : Bool) (lf : Nat) (dr : Nat → (FuncId → CF) → List Oper → CC) (call : FuncId → CF) (f : FuncId) : CF := ⟨fun args H k => match args with
  | .mark b :: vs => roundF K det lf dr call b vs H k
  | _ => (cfN K det lf dr call f).go args H k⟩

theorem run_results {K : Tab} {fn : Func} {tmps : Array Value} {w : World} {xs : List Value} (h : (fn.results.toList.mapM (resOp tmps)).run K.P w = .ok xs w) :
    (results fn tmps).run K.P w = .ok (if h : xs.toArray.size = 1 then xs.toArray[0] else .tuple xs.toArray) w := by
  have e : results fn tmps = (do let vs ← fn.results.mapM (resOp tmps); pure (if h : vs.size = 1 then vs[0] else .tuple vs)) := by
    unfold results
    congr 1
  rw [e]
  have hm : fn.results.mapM (resOp tmps) = List.toArray <$> fn.results.toList.mapM (resOp tmps) := by
    rw [← List.mapM_toArray]
  rw [hm]
  simp only [Sem.run_bind, Sem.run_map, h, Result.andThen_ok, Sem.run_pure]

theorem cfN_good {K : Tab} (hK : K.Ok) (hN : ∀ (f : Nat) fn, K.P.funcs[f]? = some fn → (fn.name == "runtime.NumGoroutine") = false) {det : Bool} {lf : Nat} {dr : Nat → (FuncId → CF) → List Oper → CC}
    (hdr : DrGood K det dr) {call : FuncId → CF} (hf : ∀ f, (call f).Good K det f) (f : FuncId) : ∀ args H k, isMark args = false → (cfN K det lf dr call f).go args H k = true →
      (isMark args = false → Entered K f) ∧ ∃ O : AV → AH → Prop, (∀ v H', O v H' → k v H' = true) ∧ SimF K f args H.get H.next O ∧ (det = true → One O) := fun args H k hnm h => by
  unfold cfN at h
  split at h
  · rename_i fn hfn
    have hfn := hK.fns hfn
    split at h
    · rename_i c hc
      obtain ⟨hle, h⟩ := cond_true_of h
      have hle := ble_le hle
      rw [Trie.ofListK_eq] at h
      refine ⟨fun _ => ⟨fun as w => ?_⟩, ?_⟩
      · have := hN f fn hfn
        have h1 : ¬ fn.name = "runtime.NumGoroutine" := by simpa using this
        simp [callFunc, hfn, hc, h1]
      obtain ⟨O, h1, h2, h3⟩ := ccTop_good (lf := lf) (fun x T H k h => (cc_good (top := true) hK hf (hdr fn.ntmps call hf) (S := fun R => R = none) (fun _ R hR => hR) x (.inl fun R hR => hR) T H k h).mono fun φ Q a w _ hh => by
        have := hh none rfl
        rwa [wide_none rfl, wpIn_wide] at this) c _ H _ h |>.mono (W' := InS K (fun R => R = none) c) fun φ Q a w _ hh R hR => by rw [wide_none hR, wpIn_wide]; exact hh
      have hres : ∀ p : AT × AH, ∃ v, (∃ e, O e p.1 p.2) → k v (leave fn.ntmps p.1 p.2) = true ∧ (∀ e, O e p.1 p.2 → e = .normal ∨ e = .ret) ∧ (p.1.get fn.ntmps = none ∨ ∃ b, p.1.get fn.ntmps = some (.mark b) ∧ p.2.get b = some .dfr) ∧
          ∀ (φ : Phi) (a : Act) (w : World), TR φ p.1 fn.ntmps a → WR φ (leave fn.ntmps p.1 p.2).get w → ∃ x, conc φ v = some x ∧ (results fn a.tmps).run K.P w = .ok x w := fun p => by
        by_cases hp : ∃ e, O e p.1 p.2
        · have hee : ∀ e, O e p.1 p.2 → (e = .normal ∨ e = .ret) ∧ leaveK fn.ntmps p.1 p.2 (fun H => (resC K fn.results.toList).go p.1 H (oneK fun v => k v H)) = true := fun e he => by
            have := h1 _ _ _ he
            cases e with
            | normal => exact ⟨.inl rfl, this⟩
            | ret => exact ⟨.inr rfl, this⟩
            | exit i => cases this
            | goto l => cases this
          obtain ⟨e, he⟩ := hp
          obtain ⟨hlv, hh⟩ := leaveK_ok (hee e he).2
          obtain ⟨vs, g1, g2⟩ := resC_ok hK fn.ntmps hh
          rw [oneK_eq] at g1
          refine ⟨oneV vs, fun _ => ⟨g1, fun e he => (hee e he).1, hlv, fun φ a w ht hw => ?_⟩⟩
          obtain ⟨xs, g3, g4⟩ := g2 φ a w ht hw
          exact ⟨_, oneV_conc g3, run_results g4⟩
        · exact ⟨unitA, fun h => absurd h hp⟩
      obtain ⟨F, hF⟩ := Classical.skolem.1 hres
      refine ⟨fun v I => ∃ e T' H', O e T' H' ∧ v = F (T', H') ∧ I = leave fn.ntmps T' H', ?_, ⟨?_, ?_, fun φ xs w hxs hg hw hfr R hR => ?_⟩, fun hd => ?_⟩
      · rintro v I ⟨e, T', H', hO, rfl, rfl⟩
        exact (hF (T', H') ⟨e, hO⟩).1
      · obtain ⟨e, T', H', hO⟩ := h2.1
        exact ⟨_, _, e, T', H', hO, rfl, rfl⟩
      · rintro v I ⟨e, T', H', hO, rfl, rfl⟩
        rw [leave_next]
        exact h2.2.1 _ _ _ hO
      · have hlen := concs_length hxs
        have hTR : TR φ (Trie.ofList args 0 .leaf) fn.ntmps { tmps := xs.toArray ++ Array.replicate (fn.ntmps - xs.toArray.size) undef, defers := [] } := by
          refine ⟨fun i v hv => ?_, by simp; omega, DF.none ?_⟩
          · rw [Trie.get_ofList] at hv
            simp only [Nat.not_lt_zero, if_false, Nat.zero_add, Nat.sub_zero] at hv
            split at hv
            · rename_i hlt
              obtain ⟨x, hx, hcx⟩ := concs_get i hxs hv
              rw [hcx]
              have hi : i < xs.length := by omega
              simp only [Array.getD_eq_getD_getElem?]
              rw [Array.getElem?_append_left (by simpa using hi)]
              simp [hx]
            · rw [Trie.get_leaf] at hv; cases hv
          · rw [Trie.get_ofList]
            simp only [Nat.not_lt_zero, if_false, Nat.zero_add]
            rw [if_neg (by omega), Trie.get_leaf]
        refine (Runs.calls hnm).2 (callsIn_wide (n := 0).1 (callsIn_of_wp_marks hfn hc trivial (h2.2.2 φ _ w hTR hg hw (fun b hb ⟨e, T', H', hO, hlt⟩ => hfr b hb ⟨_, _, ⟨e, T', H', hO, rfl, rfl⟩, by rw [leave_next]; exact hlt⟩) _ (fun e T' H' ψ a' w' hO hgo ht' => ?_) none rfl)))
        obtain ⟨_, he, hlv, hx⟩ := hF (T', H') ⟨e, hO⟩
        have hpost : LeavesInM Fence.wide 0 K.P fn a'.tmps R a'.defers .returning w' := leaves_of (m := H'.next) ht' hgo.wr hlv fun w'' hgo2 => by
          obtain ⟨x, g1, g2⟩ := hx ψ a' w'' ht' hgo2.wr
          refine ⟨x, g2, hR _ _ ψ x w'' ⟨e, T', H', hO, rfl, rfl⟩ ?_ g1⟩
          rw [leave_next]
          exact hgo.trans (h2.2.1 _ _ _ hO) (Nat.le_refl _) hgo2
        rcases he e hO with rfl | rfl
        · exact hpost
        · exact hpost
      · obtain ⟨e, T', H', hone⟩ := h3 hd
        refine ⟨F (T', H'), leave fn.ntmps T' H', ?_⟩
        rintro u I ⟨f', U, J, hO, rfl, rfl⟩
        obtain ⟨_, rfl, rfl⟩ := hone _ _ _ hO
        exact ⟨rfl, rfl⟩
    · cases h
  · cases h
theorem cf_good {K : Tab} (hK : K.Ok) (hN : ∀ (f : Nat) fn, K.P.funcs[f]? = some fn → (fn.name == "runtime.NumGoroutine") = false) {det : Bool} {lf : Nat} {dr : Nat → (FuncId → CF) → List Oper → CC}
    (hdr : DrGood K det dr) {call : FuncId → CF} (hf : ∀ f, (call f).Good K det f) (f : FuncId) : (cf K det lf dr call f).Good K det f := fun args H k h => by
  unfold cf at h
  simp only at h
  split at h
  · exact ⟨fun hm => (by cases hm), roundF_good hK hdr hf f _ _ H k h⟩
  · rename_i hno
    have hnm : isMark args = false := by
      cases args with
      | nil => rfl
      | cons v l =>
        cases v <;> first | rfl | exact absurd rfl (hno _ _)
    exact cfN_good hK hN hdr hf f args H k hnm h

/-- All functions, to a depth of calls. -/
noncomputable def den (K : Tab) (det : Bool) (lf : Nat) (dr : Nat → (FuncId → CF) → List Oper → CC) (d : Nat) : FuncId → CF :=
  Nat.rec (fun _ => CF.none) (fun _ ih => cf K det lf dr ih) d
theorem den_good {K : Tab} (hK : K.Ok) (hN : ∀ (f : Nat) fn, K.P.funcs[f]? = some fn → (fn.name == "runtime.NumGoroutine") = false) {det : Bool} {lf : Nat} {dr : Nat → (FuncId → CF) → List Oper → CC}
    (hdr : DrGood K det dr) : ∀ (d : Nat) (f : FuncId), (den K det lf dr d f).Good K det f
  | 0, f => CF.none_good K det f
  | d + 1, f => cf_good hK hN hdr (den_good hK hN hdr d) f

end GoX
