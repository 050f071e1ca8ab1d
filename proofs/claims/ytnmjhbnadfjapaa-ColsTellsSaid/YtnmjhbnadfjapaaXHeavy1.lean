/-
  THE OPERATIONS THAT CHANGE MEMORY: how memory stands behind them. No program is named here.
-/
import Derived.Test.YtnmjhbnadfjapaaXLight7
namespace GoX
open Go

def upd {α : Type} (G : Nat → α) (b : Nat) (x : α) : Nat → α := fun c => if c = b then x else G c

/-! ### From memory to memory -/
theorem Phi.le_upd {φ : Phi} {n : Nat} (h : φ n = none) (L : Loc) : φ.le (upd φ n (some L)) := fun b M hb => by
  simp only [upd]
  by_cases hbn : b = n
  · subst hbn; rw [h] at hb; cases hb
  · rw [if_neg hbn]; exact hb

/-- A block more. -/
theorem goes_new {φ : Phi} {G : Nat → Option Blk} {n : Nat} {w w' : World} (hw : WR φ G w) (hn : φ n = none) {obj : Obj} {blk : Blk} {o k : Nat}
    (hr : Real (upd φ n (some ⟨w.heap.size, o, k⟩)) ⟨w.heap.size, o, k⟩ obj blk) (hheap : w'.heap = w.heap.push obj) (hos : w'.os = w.os) (hout : w'.output = w.output) :
    Goes φ G n w (upd φ n (some ⟨w.heap.size, o, k⟩)) (upd G n (some blk)) (n + 1) w' := by
  have hle := Phi.le_upd hn (⟨w.heap.size, o, k⟩ : Loc)
  have hold : ∀ b L, b ≠ n → (upd φ n (some ⟨w.heap.size, o, k⟩)) b = some L → φ b = some L := fun b L hb h => by simpa [upd, hb] using h
  have hget : ∀ c, c < w.heap.size → w'.heap[c]? = w.heap[c]? := fun c hc => by rw [hheap, Array.getElem?_push_lt hc, Array.getElem?_eq_getElem hc]
  refine ⟨hle, fun b hb => ?_, ⟨fun b bl L hb hL => ?_, fun b b' bl bl' L L' hb hb' hL hL' he => ?_⟩, fun c hc _ => hget c hc, by rw [hheap]; simp, fun b bl L hb hL => ?_, hos, hout⟩
  · by_cases hbn : b = n
    · omega
    · exact absurd (by simp [upd, hbn]) hb
  · by_cases hbn : b = n
    · subst hbn
      simp only [upd, if_pos] at hb hL
      cases hb; cases hL
      exact ⟨obj, by rw [hheap]; simp, hr⟩
    · have hL' := hold b L hbn hL
      simp only [upd, if_neg hbn] at hb
      obtain ⟨ob, h1, h2⟩ := hw.real b bl L hb hL'
      exact ⟨ob, by rw [hget _ (hw.bound hb hL')]; exact h1, h2.mono hle⟩
  · by_cases hbn : b = n <;> by_cases hbn' : b' = n
    · rw [hbn, hbn']
    · exfalso
      subst hbn
      have h2 := hold b' L' hbn' hL'
      simp only [upd, if_neg hbn'] at hb'
      have := hw.bound hb' h2
      simp only [upd, if_pos] at hL
      cases hL
      simp only at he; omega
    · exfalso
      subst hbn'
      have h2 := hold b L hbn hL
      simp only [upd, if_neg hbn] at hb
      have := hw.bound hb h2
      simp only [upd, if_pos] at hL'
      cases hL'
      simp only at he; omega
    · simp only [upd, if_neg hbn] at hb
      simp only [upd, if_neg hbn'] at hb'
      exact hw.inj b b' bl bl' L L' hb hb' (hold b L hbn hL) (hold b' L' hbn' hL') he
  · by_cases hbn : b = n
    · subst hbn
      simp only [upd, if_pos] at hL
      cases hL
      exact .inl (Nat.le_refl _)
    · simp only [upd, if_neg hbn] at hb
      exact .inr ⟨b, bl, L, hb, hold b L hbn hL, rfl, id⟩

/-- A block that is written. -/
theorem goes_set {φ : Phi} {G : Nat → Option Blk} (n : Nat) {w w' : World} (hw : WR φ G w) {b : Nat} {blk blk' : Blk} {L : Loc} (hb : G b = some blk) (hm : blk.mine = true) (hL : φ b = some L)
    {obj : Obj} (hr : Real φ L obj blk') (hheap : w'.heap = w.heap.setIfInBounds L.b obj) (hos : w'.os = w.os) (hout : w'.output = w.output) :
    Goes φ G n w φ (upd G b (some blk')) n w' := by
  have hbd := hw.bound hb hL
  refine ⟨Phi.le_refl φ, fun c hc => absurd rfl hc, ⟨fun c bl M hc hM => ?_, fun c c' bl bl' M M' hc hc' hM hM' he => ?_⟩, fun c hc hno => ?_, by rw [hheap]; simp, fun c bl M hc hM => ?_, hos, hout⟩
  · by_cases hcb : c = b
    · subst hcb
      simp only [upd, if_pos] at hc
      cases hc
      rw [hL] at hM; cases hM
      exact ⟨obj, by rw [hheap]; simp [hbd], hr⟩
    · simp only [upd, if_neg hcb] at hc
      obtain ⟨ob, h1, h2⟩ := hw.real c bl M hc hM
      refine ⟨ob, ?_, h2⟩
      have hne : L.b ≠ M.b := fun e => hcb (hw.inj c b _ _ _ _ hc hb hM hL e.symm)
      rw [hheap, Array.getElem?_setIfInBounds_ne hne]; exact h1
  · have h0 : ∀ d bd, upd G b (some blk') d = some bd → ∃ x, G d = some x := fun d bd hd => by
      by_cases e : d = b
      · exact ⟨blk, by rw [e]; exact hb⟩
      · exact ⟨bd, by simpa [upd, e] using hd⟩
    have h1 := h0 c bl hc
    have h2 := h0 c' bl' hc'
    obtain ⟨x, hx⟩ := h1
    obtain ⟨y, hy⟩ := h2
    exact hw.inj c c' x y M M' hx hy hM hM' he
  · have hne : L.b ≠ c := hno b blk L hb hm hL
    rw [hheap, Array.getElem?_setIfInBounds_ne hne]
  · by_cases hcb : c = b
    · subst hcb; exact .inr ⟨c, blk, M, hb, hM, rfl, fun _ => hm⟩
    · simp only [upd, if_neg hcb] at hc
      exact .inr ⟨c, bl, M, hc, hM, rfl, id⟩

/-- A block that is taken over by another one, which lies in its place. -/
theorem goes_moved {φ : Phi} {G : Nat → Option Blk} {n : Nat} {w w' : World} (hw : WR φ G w) {b : Nat} {blk blk' : Blk} {L L' : Loc} (hb : G b = some blk) (hm : blk.mine = true) (hL : φ b = some L) (hn : φ n = none)
    (hbb : L'.b = L.b) {obj : Obj} (hr : Real (upd φ n (some L')) L' obj blk') (hheap : w'.heap = w.heap.setIfInBounds L.b obj) (hos : w'.os = w.os) (hout : w'.output = w.output) :
    Goes φ G n w (upd φ n (some L')) (upd (upd G b none) n (some blk')) (n + 1) w' := by
  have hbd := hw.bound hb hL
  have hle := Phi.le_upd hn L'
  have hbn : b ≠ n := fun e => by subst e; rw [hn] at hL; cases hL
  have hold : ∀ c M, c ≠ n → (upd φ n (some L')) c = some M → φ c = some M := fun c M hc h => by simpa [upd, hc] using h
  have hG : ∀ c bl, c ≠ n → (upd (upd G b none) n (some blk')) c = some bl → c ≠ b ∧ G c = some bl := fun c bl hc h => by
    simp only [upd, if_neg hc] at h
    by_cases hcb : c = b
    · rw [if_pos hcb] at h; cases h
    · rw [if_neg hcb] at h; exact ⟨hcb, h⟩
  refine ⟨hle, fun c hc => ?_, ⟨fun c bl M hc hM => ?_, fun c c' bl bl' M M' hc hc' hM hM' he => ?_⟩, fun c hc hno => ?_, by rw [hheap]; simp, fun c bl M hc hM => ?_, hos, hout⟩
  · by_cases hcn : c = n
    · omega
    · exact absurd (by simp [upd, hcn]) hc
  · by_cases hcn : c = n
    · subst hcn
      simp only [upd, if_pos] at hc hM
      cases hc; cases hM
      exact ⟨obj, by rw [hheap, hbb]; simp [hbd], hr⟩
    · obtain ⟨hcb, hc'⟩ := hG c bl hcn hc
      have hM' := hold c M hcn hM
      obtain ⟨ob, h1, h2⟩ := hw.real c bl M hc' hM'
      have hne : L.b ≠ M.b := fun e => hcb (hw.inj c b _ _ _ _ hc' hb hM' hL e.symm)
      exact ⟨ob, by rw [hheap, Array.getElem?_setIfInBounds_ne hne]; exact h1, h2.mono hle⟩
  · by_cases hcn : c = n <;> by_cases hcn' : c' = n
    · rw [hcn, hcn']
    · exfalso
      subst hcn
      simp only [upd, if_pos] at hM
      cases hM
      obtain ⟨hcb, hg⟩ := hG c' bl' hcn' hc'
      exact hcb (hw.inj c' b _ _ _ _ hg hb (hold c' M' hcn' hM') hL (by rw [← he, hbb]))
    · exfalso
      subst hcn'
      simp only [upd, if_pos] at hM'
      cases hM'
      obtain ⟨hcb, hg⟩ := hG c bl hcn hc
      exact hcb (hw.inj c b _ _ _ _ hg hb (hold c M hcn hM) hL (by rw [he, hbb]))
    · obtain ⟨_, hg⟩ := hG c bl hcn hc
      obtain ⟨_, hg'⟩ := hG c' bl' hcn' hc'
      exact hw.inj c c' _ _ _ _ hg hg' (hold c M hcn hM) (hold c' M' hcn' hM') he
  · have hne : L.b ≠ c := hno b blk L hb hm hL
    rw [hheap, Array.getElem?_setIfInBounds_ne hne]
  · by_cases hcn : c = n
    · subst hcn
      simp only [upd, if_pos] at hM
      cases hM
      exact .inr ⟨b, blk, L, hb, hL, hbb.symm, fun _ => hm⟩
    · obtain ⟨_, hg⟩ := hG c bl hcn hc
      exact .inr ⟨c, bl, M, hg, hold c M hcn hM, rfl, id⟩

/-- A block more, and one that is not asked any more. -/
theorem Goes.drop {φ ψ : Phi} {G G' : Nat → Option Blk} {n n' : Nat} {w w' : World} (h : Goes φ G n w ψ G' n' w') {G'' : Nat → Option Blk} (hs : ∀ b blk, G'' b = some blk → G' b = some blk) :
    Goes φ G n w ψ G'' n' w' :=
  ⟨h.le, h.new, h.wr.less fun b blk hb _ => hs b blk hb, h.keep, h.size, fun b blk L hb hL => h.foot b blk L (hs b blk hb) hL, h.os, h.output⟩

/-! ### What an operation of each kind says -/
/-- One that lays a new block, number n. -/
def SimA (K : Tab) (T : AT) (op : Op) (n : Nat) (v : AV) (blk : Blk) : Prop :=
  ∀ (φ : Phi) (a : Act) (w : World), OR K.ng φ T a op.operands.toList → φ n = none →
    ∃ obj x, conc (upd φ n (some ⟨w.heap.size, 0, 0⟩)) v = some x ∧ Real (upd φ n (some ⟨w.heap.size, 0, 0⟩)) ⟨w.heap.size, 0, 0⟩ obj blk ∧
      ∀ o : Oper, o.op = op → (execOp a.eval o).run K.P w = .ok (.value x) { w with heap := w.heap.push obj }

/-- Any other one. -/
def SimH (K : Tab) (T : AT) (G : Nat → Option Blk) (n : Nat) (op : Op) (v : AV) (G' : Nat → Option Blk) (n' : Nat) : Prop :=
  n ≤ n' ∧ ∀ (φ : Phi) (a : Act) (w : World), OR K.ng φ T a op.operands.toList → Glob K.ng φ → WR φ G w → (∀ b, n ≤ b → b < n' → φ b = none) →
    ∃ ψ x w', Goes φ G n w ψ G' n' w' ∧ conc ψ v = some x ∧
      ∀ o : Oper, o.op = op → ∀ (next : Act → World → Prop) (Q : Exit → Act → World → Prop), next (a.put o.dst x) w' → o.wp K.P a w next Q

theorem wp_value {P : Program} {o : Oper} {a : Act} {w w' : World} {x : Value} (h : (execOp a.eval o).run P w = .ok (.value x) w') {next : Act → World → Prop} {Q : Exit → Act → World → Prop}
    (hn : next (a.put o.dst x) w') : o.wp P a w next Q := by
  unfold Oper.wp; rw [h]; exact hn
theorem wp_skip' {P : Program} {o : Oper} {a : Act} {w w' : World} (h : (execOp a.eval o).run P w = .ok .skip w') {next : Act → World → Prop} {Q : Exit → Act → World → Prop}
    (hn : next (a.put o.dst undef) w') : o.wp P a w next Q := by
  unfold Oper.wp; rw [h]; exact hn

theorem AH.get_set (H : AH) (n i : Nat) (x : Option Blk) : (AH.mk n (H.t.set i x)).get = upd H.get i x := by
  funext b; simp [AH.get, upd, Trie.get_set]

theorem SimA.heavy {K : Tab} {T : AT} {op : Op} {H : AH} {v : AV} {blk : Blk} (h : SimA K T op H.next v blk) :
    SimH K T H.get H.next op v (AH.mk (H.next + 1) (H.t.set H.next (some blk))).get (H.next + 1) := by
  refine ⟨Nat.le_succ _, fun φ a w hor _ hw hfr => ?_⟩
  have hn := hfr H.next (Nat.le_refl _) (Nat.lt_succ_self _)
  obtain ⟨obj, x, hx, hr, hrun⟩ := h φ a w hor hn
  rw [AH.get_set]
  exact ⟨_, x, _, goes_new (w' := { w with heap := w.heap.push obj }) hw hn hr rfl rfl rfl, hx, fun o ho next Q hq => wp_value (hrun o ho) hq⟩

theorem SimL.heavy {K : Tab} {T : AT} {op : Op} {G : Nat → Option Blk} {n : Nat} {v : AV} (h : SimL K T G op v) : SimH K T G n op v G n := by
  refine ⟨Nat.le_refl _, fun φ a w hor _ hw _ => ?_⟩
  obtain ⟨x, hx, hrun⟩ := h φ a w hor hw
  exact ⟨φ, x, w, Goes.refl hw, hx, fun o ho next Q hq => wp_value (hrun o ho) hq⟩

structure CA where
  go : AT → Nat → (AV → Blk → Bool) → Bool
def CA.none : CA := ⟨fun _ _ _ => false⟩
def CA.Good (K : Tab) (op : Op) (c : CA) : Prop := ∀ T n k, c.go T n k = true → ∃ v blk, SimA K T op n v blk ∧ k v blk = true
theorem CA.none_good (K : Tab) (op : Op) : CA.Good K op CA.none := fun _ _ _ h => by cases h

structure CH where
  go : AT → AH → (AV → AH → Bool) → Bool
def CH.none : CH := ⟨fun _ _ _ => false⟩
def CH.Good (K : Tab) (op : Op) (c : CH) : Prop := ∀ T H k, c.go T H k = true → ∃ v H', SimH K T H.get H.next op v H'.get H'.next ∧ k v H' = true
theorem CH.none_good (K : Tab) (op : Op) : CH.Good K op CH.none := fun _ _ _ h => by cases h

/-! ### New blocks -/
theorem conc_ptr_upd (φ : Phi) (n b o k : Nat) : conc (upd φ n (some ⟨b, o, k⟩)) (.ptr (some (n, 0))) = some (.pointer (some ⟨b, o, none⟩)) := by
  simp [conc, concP, upd]

noncomputable def aAlloc (K : Tab) (e : TypeId) : CA :=
  match K.zero e with
  | some z => ⟨fun _ n k => k (.ptr (some (n, 0))) (.cells z.cells e 0)⟩
  | none => CA.none
theorem aAlloc_good {K : Tab} (hK : K.Ok) (e : TypeId) : CA.Good K (.alloc e) (aAlloc K e) := fun T n k h => by
  unfold aAlloc at h
  split at h
  · rename_i z hz
    refine ⟨_, _, fun φ a w hor hn => ?_, h⟩
    obtain ⟨x, hx, hrun⟩ := hK.runZero hz (upd φ n (some ⟨w.heap.size, 0, 0⟩)) w
    obtain ⟨xs, hxs, hc⟩ := cells_conc hx
    refine ⟨.cells xs.toArray e, _, conc_ptr_upd φ n _ 0 0, ⟨xs, hxs, rfl, rfl⟩, fun o ho => ?_⟩
    simp only [execOp, ho]
    simp [Instr.alloc, hrun, newVar, newRow, hc]
  · cases h

noncomputable def aBox (K : Tab) (e : TypeId) (x : Operand) : CA := ⟨fun T n k => (ce K.ng x).go T fun v => match v with
  | .agg l => k (.ptr (some (n, 0))) (.cells l e 0)
  | v => k (.ptr (some (n, 0))) (.cells [v] e 0)⟩
theorem aBox_good {K : Tab} (e : TypeId) (x : Operand) : CA.Good K (.box e x) (aBox K e x) := fun T n k h => by
  obtain ⟨v, hv, h⟩ := ce_ok h
  have h' : k (.ptr (some (n, 0))) (.cells v.cells e 0) = true := by cases v <;> exact h
  refine ⟨_, _, fun φ a w hor hn => ?_, h'⟩
  obtain ⟨xs, hxs, hc⟩ := cells_conc (conc_mono (Phi.le_upd hn ⟨w.heap.size, 0, 0⟩) _ (hor x (by simp [Op.operands]) _ hv))
  refine ⟨.cells xs.toArray e, _, conc_ptr_upd φ n _ 0 0, ⟨xs, hxs, rfl, rfl⟩, fun o ho => ?_⟩
  simp only [execOp, ho]
  simp [Instr.box, newVar, newRow, hc]

noncomputable def aMakeMap (K : Tab) (t : TypeId) (r : Option Operand) : CA :=
  match r with
  | none => ⟨fun _ n k => k (.map (some n)) (.map [] 0)⟩
  | some x => match K.und t with
    | some (.map _ _) => ⟨fun T n k => (ce K.ng x).go T fun v => match v with
      | .int _ _ => k (.map (some n)) (.map [] 0)
      | _ => false⟩
    | _ => CA.none
theorem aMakeMap_good {K : Tab} (hK : K.Ok) (t : TypeId) (r : Option Operand) : CA.Good K (.makeMap t r) (aMakeMap K t r) := fun T n k h => by
  unfold aMakeMap at h
  split at h
  · refine ⟨.map (some n), .map [] 0, fun φ a w hor hn => ⟨.map #[] 0, .map (some w.heap.size), by simp [conc, upd], ⟨[], rfl, rfl⟩, fun o ho => ?_⟩, h⟩
    simp only [execOp, ho]
    simp [Instr.makeMap]
  · rename_i x
    split at h
    · rename_i kt et hs
      obtain ⟨v, hv, h⟩ := ce_ok h
      match v, h with
      | .int kd i, h =>
        refine ⟨.map (some n), .map [] 0, fun φ a w hor hn => ⟨.map #[] 0, .map (some w.heap.size), by simp [conc, upd], ⟨[], rfl, rfl⟩, fun o ho => ?_⟩, h⟩
        have hp := conc_int (hor x (by simp [Op.operands]) _ hv)
        simp only [execOp, ho]
        simp [Instr.makeMap, hK.runUnd hs, hp, asInt, asIntOf]
    · cases h

end GoX
