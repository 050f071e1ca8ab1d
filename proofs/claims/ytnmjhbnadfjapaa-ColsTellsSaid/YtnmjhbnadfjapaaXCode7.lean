/-
  ROWS OF OPERATIONS WHOSE ORDER IS DRAWN: what holds between two of them. No program is named here.
-/
import Derived.Test.YtnmjhbnadfjapaaXCode6
namespace GoX
open Go

theorem Plan.some {all : List Oper} {pl : List DI} (_ : Plan all pl) {p : Nat} (h : p < pl.length) : ∃ s, pl[p]? = some s := ⟨pl[p], by simp [h]⟩

section
variable {K : Tab} {all : List Oper} {n : Nat} {pl : List DI} {τ : Nat → AT} {η : Nat → AH} {val : Nat → AV}

theorem Traced.mono (hT : Traced K all n pl [] τ η val) : ∀ {p q : Nat}, p ≤ q → q ≤ pl.length → (η p).next ≤ (η q).next := by
  intro p q hpq hq
  induction q with
  | zero => rw [show p = 0 by omega]; exact Nat.le_refl _
  | succ q ih =>
    rcases Nat.lt_or_ge q p with h | h
    · rw [show p = q + 1 by omega]; exact Nat.le_refl _
    · exact Nat.le_trans (ih h (by omega)) (hT q pl[q] (by simp [show q < pl.length by omega])).le

/-! ### Memory, between two of them -/
def LayAt (pl : List DI) (η : Nat → AH) (p b : Nat) (blk : Blk) : Prop :=
  p < pl.length ∧ (η p).next = b ∧ (η (p + 1)).next = b + 1 ∧ (η (p + 1)).get = upd (η p).get b (some blk)
open Classical in
noncomputable def lay (pl : List DI) (η : Nat → AH) (b : Nat) : Option Blk := if h : ∃ blk p, LayAt pl η p b blk then some h.choose else none
noncomputable def Gam (pl : List DI) (η : Nat → AH) (q : Nat) : Nat → Option Blk := fun b => if (η q).next ≤ b ∧ b < (η pl.length).next then lay pl η b else (η q).get b
def cut (pl : List DI) (η : Nat → AH) (p : Nat) (φ : Phi) : Phi := fun b => if (η p).next ≤ b ∧ b < (η pl.length).next then none else φ b

theorem lay_eq (hT : Traced K all n pl [] τ η val) {p b : Nat} {blk : Blk} (h : LayAt pl η p b blk) : lay pl η b = some blk := by
  have hex : ∃ blk p, LayAt pl η p b blk := ⟨blk, p, h⟩
  unfold lay
  rw [dif_pos hex]
  obtain ⟨q, hq⟩ := hex.choose_spec
  have hpq : p = q := by
    rcases Nat.lt_trichotomy p q with hlt | heq | hlt
    · have := hT.mono (show p + 1 ≤ q by omega) (by have := hq.1; omega)
      rw [h.2.2.1, hq.2.1] at this; omega
    · exact heq
    · have := hT.mono (show q + 1 ≤ p by omega) (by have := h.1; omega)
      rw [hq.2.2.1, h.2.1] at this; omega
  subst hpq
  have := h.2.2.2.symm.trans hq.2.2.2
  have := congrFun this b
  simp only [upd, if_pos] at this
  exact this.symm

theorem Gam_step (hT : Traced K all n pl [] τ η val) {p : Nat} {s : DI} (hp : pl[p]? = some s) (hk : s.kind ≠ 2) : Gam pl η p = Gam pl η (p + 1) := by
  have hlt : p < pl.length := (List.getElem?_eq_some_iff.1 hp).1
  have hst := hT p s hp
  have same : η (p + 1) = η p → Gam pl η p = Gam pl η (p + 1) := fun e => by unfold Gam; rw [e]
  rcases hst.act with ⟨_, _, h⟩ | ⟨_, h⟩
  · exact same h
  · cases h with
    | light _ h _ => exact same h
    | heavy h _ => exact absurd h hk
    | lays blk _ _ hg hn =>
      have hlay : LayAt pl η p (η p).next blk := ⟨hlt, rfl, hn, hg⟩
      have hN := hT.mono (show p + 1 ≤ pl.length by omega) (Nat.le_refl _)
      funext b
      simp only [Gam, hn]
      rcases Nat.lt_trichotomy b (η p).next with h | h | h
      · rw [if_neg (by omega), if_neg (by omega), hg]
        simp only [upd]
        rw [if_neg (by omega)]
      · subst h
        rw [if_pos ⟨Nat.le_refl _, by omega⟩, if_neg (by omega), hg, lay_eq hT hlay]
        simp [upd]
      · by_cases hb : b < (η pl.length).next
        · rw [if_pos ⟨by omega, hb⟩, if_pos ⟨by omega, hb⟩]
        · rw [if_neg (by omega), if_neg (by omega), hg]
          simp only [upd]
          rw [if_neg (by omega)]

theorem Gam_seg (hT : Traced K all n pl [] τ η val) {q : Nat} : ∀ {p : Nat}, q ≤ p → p ≤ pl.length → (∀ h s, q ≤ h → h < p → pl[h]? = some s → s.kind ≠ 2) → Gam pl η q = Gam pl η p := by
  intro p hqp hp hk
  induction p with
  | zero => rw [show q = 0 by omega]
  | succ p ih =>
    rcases Nat.lt_or_ge p q with h | h
    · rw [show q = p + 1 by omega]
    · have hs : pl[p]? = some pl[p] := by simp
      rw [ih h (by omega) fun h' s h1 h2 => hk h' s h1 (by omega)]
      exact Gam_step hT hs (hk p _ h (by omega) hs)

theorem cut_le (p : Nat) (φ : Phi) : (cut pl η p φ).le φ := fun b L h => by
  unfold cut at h
  split at h
  · cases h
  · exact h
theorem cut_mono (hT : Traced K all n pl [] τ η val) {p q : Nat} (hpq : p ≤ q) (hq : q ≤ pl.length) {φ ψ : Phi} (h : φ.le ψ) : (cut pl η p φ).le (cut pl η q ψ) := fun b L hb => by
  have := hT.mono hpq hq
  unfold cut at hb ⊢
  split at hb
  · cases hb
  · rw [if_neg (by omega)]
    exact h b L hb

/-! ### Values that name no late block -/
theorem low1_cut {φ : Phi} {p : Nat} {v : AV} {x : Value} (hl : low1 (η p).next v = true) (h : conc φ v = some x) : conc (cut pl η p φ) v = some x := by
  have hc : ∀ b, b < (η p).next → cut pl η p φ b = φ b := fun b hb => by unfold cut; rw [if_neg (by omega)]
  match v, hl with
  | .bool _, _ => exact h
  | .int _ _, _ => exact h
  | .str _, _ => exact h
  | .ptr none, _ => exact h
  | .ptr (some (b, o)), hl => simp only [conc, concP] at h ⊢; rw [hc b (blt_lt hl)]; exact h
  | .sl none _ c, _ => cases c <;> exact h
  | .sl (some (b, o)) _ c, hl => cases c <;> (simp only [conc, concSl, concP] at h ⊢; rw [hc b (blt_lt hl)]; exact h)
  | .map none, _ => exact h
  | .map (some r), hl => simp only [conc] at h ⊢; rw [hc r (blt_lt hl)]; exact h
  | .nilFn, _ => exact h
  | .nilIfc, _ => exact h
theorem lows_cut {φ : Phi} {p : Nat} : ∀ {l : List AV} {xs : List Value}, lows (η p).next l = true → concs φ l = some xs → concs (cut pl η p φ) l = some xs
  | [], _, _, h => by rw [concs_nil h]; rfl
  | v :: l, xs, hl, h => by
    simp only [lows, Bool.and_eq_true] at hl
    obtain ⟨x, y, h1, h2, rfl⟩ := concs_cons h
    exact concs_cons_mk (low1_cut hl.1 h1) (lows_cut hl.2 h2)
theorem lowV_cut {φ : Phi} {p : Nat} {v : AV} {x : Value} (hl : lowV (η p).next v = true) (h : conc φ v = some x) : conc (cut pl η p φ) v = some x := by
  unfold lowV at hl
  split at hl
  · obtain ⟨xs, h1, rfl⟩ := conc_agg h
    exact conc_agg_mk (lows_cut hl h1)
  · rename_i t v
    obtain ⟨y, h1, rfl⟩ := conc_ifc h
    simp only [conc, low1_cut hl h1]
  · exact low1_cut hl h

/-! ### Slots, between two of them -/
theorem slot_of (hT : Traced K all n pl [] τ η val) (t : Nat) : ∀ (p : Nat), p ≤ pl.length → ∀ v, (τ p).get t = some v →
    (∃ j s, j < p ∧ pl[j]? = some s ∧ s.o.dst = some t ∧ v = val j ∧ ∀ j' s', j < j' → j' < p → pl[j']? = some s' → s'.o.dst ≠ some t) ∨
    ((∀ j s, j < p → pl[j]? = some s → s.o.dst ≠ some t) ∧ (τ 0).get t = some v)
  | 0, _, v, h => .inr ⟨fun j s hj => absurd hj (by omega), h⟩
  | p + 1, hp, v, h => by
    have hs : pl[p]? = some pl[p] := by simp
    have hput := (hT p _ hs).put
    by_cases hd : pl[p].o.dst = some t
    · rw [hput, hd] at h
      simp only [putT, Trie.get_set, if_pos] at h
      cases h
      exact .inl ⟨p, _, by omega, hs, hd, rfl, fun j' s' h1 h2 => by omega⟩
    · have h' : (τ p).get t = some v := by
        rw [hput] at h
        cases hdd : pl[p].o.dst with
        | none => rw [hdd] at h; exact h
        | some d =>
          rw [hdd] at h
          simp only [putT, Trie.get_set] at h
          rwa [if_neg (fun e => hd (by rw [hdd, e]))] at h
      rcases slot_of hT t p (by omega) v h' with ⟨j, s, h1, h2, h3, h4, h5⟩ | ⟨h1, h2⟩
      · refine .inl ⟨j, s, by omega, h2, h3, h4, fun j' s' g1 g2 g3 => ?_⟩
        by_cases e : j' = p
        · subst e; rw [hs] at g3; cases g3; exact hd
        · exact h5 j' s' g1 (by omega) g3
      · refine .inr ⟨fun j s g1 g2 => ?_, h2⟩
        by_cases e : j = p
        · subst e; rw [hs] at g2; cases g2; exact hd
        · exact h1 j s (by omega) g2

end

theorem touches_of {d : Option Tmp} {t : Tmp} {l : List Tmp} (hd : d = some t) (ht : t ∈ l) : touches d l = true := by
  subst hd
  show hasT t l = true
  induction l with
  | nil => cases ht
  | cons u l ih =>
    unfold hasT
    rcases List.mem_cons.1 ht with rfl | ht
    · simp
    · cases Nat.beq u t with
      | true => rfl
      | false => exact ih ht
theorem mem_tmpsOf {t : Tmp} : ∀ {l : List Operand}, .tmp t ∈ l → t ∈ tmpsOf l
  | .tmp u :: l, h => by
    rcases List.mem_cons.1 h with h | h
    · injection h with h; subst h; simp [tmpsOf]
    · simp [tmpsOf, mem_tmpsOf h]
  | .const _ :: l, h => by
    rcases List.mem_cons.1 h with h | h
    · cases h
    · simpa [tmpsOf] using mem_tmpsOf h
  | .global _ :: l, h => by
    rcases List.mem_cons.1 h with h | h
    · cases h
    · simpa [tmpsOf] using mem_tmpsOf h
  | .func _ :: l, h => by
    rcases List.mem_cons.1 h with h | h
    · cases h
    · simpa [tmpsOf] using mem_tmpsOf h
theorem reads_op {all : List Oper} {o : Oper} {t : Tmp} (h : .tmp t ∈ o.op.operands.toList) : t ∈ readsOf all o := by
  have := mem_tmpsOf h
  unfold readsOf
  split
  · split
    · exact List.mem_cons_of_mem _ this
    · exact this
  · exact this
theorem reads_guard {all : List Oper} {o : Oper} {j : Nat} {want : Bool} {d : Tmp} (hg : o.guard = some (j, want)) (hd : dstOf all j = some d) : d ∈ readsOf all o := by
  unfold readsOf
  rw [hg]
  simp only [hd]
  exact List.mem_cons_self ..

theorem lowOps_mem {n : Nat} {T : AT} : ∀ {l : List Operand}, lowOps n T l = true → ∀ t, .tmp t ∈ l → ∀ v, T.get t = some v → lowV n v = true
  | x :: l, h, t, ht, v, hv => by
    cases x with
    | tmp u =>
      simp only [lowOps, Bool.and_eq_true] at h
      rcases List.mem_cons.1 ht with he | ht
      · injection he with he
        subst he
        obtain ⟨v', hv', h1⟩ := getT_ok h.1
        rw [hv] at hv'; cases hv'; exact h1
      · exact lowOps_mem h.2 t ht v hv
    | const c =>
      rcases List.mem_cons.1 ht with he | ht
      · cases he
      · exact lowOps_mem (show lowOps n T l = true from h) t ht v hv
    | global c =>
      rcases List.mem_cons.1 ht with he | ht
      · cases he
      · exact lowOps_mem (show lowOps n T l = true from h) t ht v hv
    | func c =>
      rcases List.mem_cons.1 ht with he | ht
      · cases he
      · exact lowOps_mem (show lowOps n T l = true from h) t ht v hv

end GoX
