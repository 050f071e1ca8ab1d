/-
  PIECES OF CODE, and functions. No program is named here.
-/
import Derived.Test.YtnmjhbnadfjapaaXCode1
import Derived.Scope
namespace GoX
open Go

/-- How a piece of code is left. -/
inductive Ex where
  | normal
  | exit (id : Nat)
  | goto (l : Nat)
  | ret
def Ex.to : Ex → Exit
  | .normal => .normal
  | .exit id => .exit id
  | .goto l => .goto l
  | .ret => .ret

abbrev Post := Exit → Act → World → Prop
structure CC where
  go : AT → AH → (Ex → AT → AH → Bool) → Bool
def CC.none : CC := ⟨fun _ _ _ => false⟩

def One3 (O : Ex → AT → AH → Prop) : Prop := ∃ e T H, ∀ f U I, O f U I → f = e ∧ U = T ∧ I = H

def SimW (K : Tab) (n : Nat) (W : Post → Act → World → Prop) (T : AT) (G : Nat → Option Blk) (nx : Nat) (O : Ex → AT → AH → Prop) : Prop :=
  (∃ e T' H', O e T' H') ∧ (∀ e T' H', O e T' H' → nx ≤ H'.next) ∧ ∀ (φ : Phi) (a : Act) (w : World), TR φ T n a → Glob K.ng φ → WR φ G w →
    (∀ b, nx ≤ b → (∃ e T' H', O e T' H' ∧ b < H'.next) → φ b = .none) → ∀ Q : Post,
    (∀ e T' H' ψ a' w', O e T' H' → Goes φ G nx w ψ H'.get H'.next w' → TR ψ T' n a' → Q e.to a' w') → W Q a w

def CC.Can (K : Tab) (det : Bool) (n : Nat) (W : Post → Act → World → Prop) (T : AT) (H : AH) (k : Ex → AT → AH → Bool) : Prop :=
  ∃ O : Ex → AT → AH → Prop, (∀ e T' H', O e T' H' → k e T' H' = true) ∧ SimW K n W T H.get H.next O ∧ (det = true → One3 O)
def CC.Good (K : Tab) (det : Bool) (n : Nat) (W : Post → Act → World → Prop) (c : CC) : Prop := ∀ T H k, c.go T H k = true → CC.Can K det n W T H k

theorem CC.none_good (K : Tab) (det : Bool) (n : Nat) (W : Post → Act → World → Prop) : CC.Good K det n W CC.none := fun _ _ _ h => by cases h

/-- Straight on. -/
theorem can_one {K : Tab} {det : Bool} {n : Nat} {W : Post → Act → World → Prop} {T : AT} {H : AH} {k : Ex → AT → AH → Bool} (e : Ex) (h : k e T H = true)
    (hW : ∀ Q a w, Q e.to a w → W Q a w) : CC.Can K det n W T H k :=
  ⟨fun f U I => f = e ∧ U = T ∧ I = H, fun f U I hf => by rw [hf.1, hf.2.1, hf.2.2]; exact h,
    ⟨⟨_, _, _, rfl, rfl, rfl⟩, fun f U I hf => by rw [hf.2.2]; exact Nat.le_refl _, fun φ a w ht hg hw hfr Q hQ => hW Q a w (hQ e T H φ a w ⟨rfl, rfl, rfl⟩ (Goes.refl hw) ht)⟩,
    fun _ => ⟨e, T, H, fun _ _ _ h => h⟩⟩

theorem CC.Can.mono {K : Tab} {det : Bool} {n : Nat} {W W' : Post → Act → World → Prop} {T : AT} {H : AH} {k : Ex → AT → AH → Bool} (h : CC.Can K det n W T H k)
    (hW : ∀ φ Q a w, TR φ T n a → W Q a w → W' Q a w) : CC.Can K det n W' T H k := by
  obtain ⟨O, h1, h2, h3⟩ := h
  exact ⟨O, h1, ⟨h2.1, h2.2.1, fun φ a w ht hg hw hfr Q hQ => hW φ Q a w ht (h2.2.2 φ a w ht hg hw hfr Q hQ)⟩, h3⟩

/-! ### One after the other -/
noncomputable def thenK (y : CC) (k : Ex → AT → AH → Bool) : Ex → AT → AH → Bool := fun e T H =>
  Ex.casesOn e (y.go T H k) (fun id => k (.exit id) T H) (fun l => k (.goto l) T H) (k .ret T H)
noncomputable def seqC (x y : CC) : CC := ⟨fun T H k => x.go T H (thenK y k)⟩

theorem thenK_normal (y : CC) (k : Ex → AT → AH → Bool) (T : AT) (H : AH) : thenK y k .normal T H = y.go T H k := rfl
theorem thenK_other (y : CC) (k : Ex → AT → AH → Bool) {e : Ex} (he : e ≠ .normal) (T : AT) (H : AH) : thenK y k e T H = k e T H := by
  cases e <;> first | rfl | exact absurd rfl he

theorem Glob.le {ng : Nat} {φ ψ : Phi} (h : Glob ng φ) (hle : φ.le ψ) : Glob ng ψ := fun g hg => hle _ _ (h g hg)

theorem can_then {K : Tab} {det : Bool} {n : Nat} {W₁ W₂ W : Post → Act → World → Prop} {T : AT} {H : AH} {y : CC} {k : Ex → AT → AH → Bool}
    (hx : CC.Can K det n W₁ T H (thenK y k)) (hy : CC.Good K det n W₂ y) (hW : ∀ Q a w, W₁ (Exit.then (W₂ Q) Q) a w → W Q a w) : CC.Can K det n W T H k := by
  obtain ⟨O, h1, h2, h3⟩ := hx
  have hex : ∀ p : AT × AH, ∃ O₂ : Ex → AT → AH → Prop, O .normal p.1 p.2 →
      (∀ e T' H', O₂ e T' H' → k e T' H' = true) ∧ SimW K n W₂ p.1 p.2.get p.2.next O₂ ∧ (det = true → One3 O₂) := fun p => by
    by_cases hO : O .normal p.1 p.2
    · obtain ⟨O₂, g⟩ := hy p.1 p.2 k (by have := h1 _ _ _ hO; rwa [thenK_normal] at this)
      exact ⟨O₂, fun _ => g⟩
    · exact ⟨fun _ _ _ => False, fun h => absurd h hO⟩
  obtain ⟨F, hF⟩ := Classical.skolem.1 hex
  refine ⟨fun e T' H' => (e ≠ .normal ∧ O e T' H') ∨ ∃ U I, O .normal U I ∧ F (U, I) e T' H', ?_, ⟨?_, ?_, fun φ a w ht hg hw hfr Q hQ => ?_⟩, fun hd => ?_⟩
  · rintro e T' H' (⟨he, hO⟩ | ⟨U, I, hO, hf⟩)
    · have := h1 _ _ _ hO; rwa [thenK_other _ _ he] at this
    · exact (hF (U, I) hO).1 _ _ _ hf
  · obtain ⟨e, T', H', hO⟩ := h2.1
    by_cases he : e = .normal
    · subst he
      obtain ⟨e2, T2, H2, hO2⟩ := (hF (T', H') hO).2.1.1
      exact ⟨e2, T2, H2, .inr ⟨T', H', hO, hO2⟩⟩
    · exact ⟨e, T', H', .inl ⟨he, hO⟩⟩
  · rintro e T' H' (⟨he, hO⟩ | ⟨U, I, hO, hf⟩)
    · exact h2.2.1 _ _ _ hO
    · exact Nat.le_trans (h2.2.1 _ _ _ hO) ((hF (U, I) hO).2.1.2.1 _ _ _ hf)
  · apply hW
    refine h2.2.2 φ a w ht hg hw (fun b hb hex => ?_) _ fun e T' H' ψ a' w' hO hgo ht' => ?_
    · obtain ⟨e, T', H', hO, hlt⟩ := hex
      by_cases he : e = .normal
      · subst he
        obtain ⟨e2, T2, H2, hO2⟩ := (hF (T', H') hO).2.1.1
        exact hfr b hb ⟨e2, T2, H2, .inr ⟨T', H', hO, hO2⟩, Nat.lt_of_lt_of_le hlt ((hF (T', H') hO).2.1.2.1 _ _ _ hO2)⟩
      · exact hfr b hb ⟨e, T', H', .inl ⟨he, hO⟩, hlt⟩
    · cases e with
      | normal =>
        show W₂ Q a' w'
        refine (hF (T', H') hO).2.1.2.2 ψ a' w' ht' (hg.le hgo.le) hgo.wr (fun b hb hex => ?_) Q fun e2 T2 H2 χ a2 w2 hO2 hgo2 ht2 => ?_
        · obtain ⟨e2, T2, H2, hO2, hlt⟩ := hex
          have hφ : φ b = .none := hfr b (Nat.le_trans (h2.2.1 _ _ _ hO) hb) ⟨e2, T2, H2, .inr ⟨T', H', hO, hO2⟩, hlt⟩
          by_cases hne : ψ b = φ b
          · rw [hne, hφ]
          · exact absurd (hgo.new b hne).2 (by simp only at hb; omega)
        · exact hQ e2 T2 H2 χ a2 w2 (.inr ⟨T', H', hO, hO2⟩) (hgo.trans (h2.2.1 _ _ _ hO) ((hF (T', H') hO).2.1.2.1 _ _ _ hO2) hgo2) ht2
      | exit id => exact hQ (.exit id) T' H' ψ a' w' (.inl ⟨by simp, hO⟩) hgo ht'
      | goto l => exact hQ (.goto l) T' H' ψ a' w' (.inl ⟨by simp, hO⟩) hgo ht'
      | ret => exact hQ .ret T' H' ψ a' w' (.inl ⟨by simp, hO⟩) hgo ht'
  · obtain ⟨e, T', H', hone⟩ := h3 hd
    by_cases he : O .normal T' H'
    · obtain ⟨e2, T2, H2, hone2⟩ := (hF (T', H') he).2.2 hd
      refine ⟨e2, T2, H2, ?_⟩
      rintro f U I (⟨hf, hO⟩ | ⟨U', I', hO, hf⟩)
      · obtain ⟨rfl, rfl, rfl⟩ := hone _ _ _ hO
        obtain ⟨g, _, _⟩ := hone _ _ _ he
        exact absurd g.symm hf
      · obtain ⟨_, rfl, rfl⟩ := hone _ _ _ hO
        exact hone2 _ _ _ hf
    · refine ⟨e, T', H', ?_⟩
      rintro f U I (⟨hf, hO⟩ | ⟨U', I', hO, hf⟩)
      · exact hone _ _ _ hO
      · obtain ⟨_, rfl, rfl⟩ := hone _ _ _ hO
        exact absurd hO he

/-! ### A row of operations in its order -/
theorem opW_then {P : Program} {ops : Array Oper} {o : Oper} {next : Act → World → Prop} {Q : Post} {a : Act} {w : World} (h : opW P ops o next (Exit.then next Q) a w) : opW P ops o next Q a w := by
  unfold opW at h ⊢
  split
  · rename_i hw
    rw [if_pos hw] at h
    exact can_mono h (fun _ _ h => h) (fun _ _ _ h => h) fun h => h
  · rename_i hw
    rw [if_neg hw] at h
    exact h
theorem opW_in {P : Program} {ops : Array Oper} {o : Oper} {next next' : Act → World → Prop} {Q : Post} {a : Act} {w : World} (R : Option Nat) (hR : R = none ∨ ∀ c, o.op ≠ .defer c) (h : opW P ops o next Q a w) (hn : ∀ a w, next a w → next' a w) :
    if Region.wanted o (yielded ops a.tmps) then o.wpIn (FR R) 0 P a w next' Q else (∀ f, o.about P w a.eval = some f → (FR R).fn f) ∧ next' (a.put o.dst undef) w := by
  unfold opW at h
  split
  · rename_i hw
    rw [if_pos hw] at h
    exact Oper.wpIn_mono hn (can_in R hR h)
  · rename_i hw
    rw [if_neg hw] at h
    exact ⟨fun _ _ => trivial, hn _ _ h⟩

/-- A row in its order. -/
def ListW (P : Program) (ops : Array Oper) (Q : Post) : List Oper → Act → World → Prop
  | [], a, w => Q .normal a w
  | o :: l, a, w => opW P ops o (ListW P ops Q l) Q a w
theorem listW_in {P : Program} {ops : Array Oper} {Q : Post} (R : Option Nat) : ∀ (l : List Oper), (R = none ∨ ∀ o ∈ l, ∀ c, o.op ≠ .defer c) → ∀ {a : Act} {w : World}, ListW P ops Q l a w → wpListIn (FR R) 0 P ops Q l a w
  | [], _, _, _, h => h
  | o :: l, hR, a, w, h => opW_in R (hR.imp id fun h => h o (by simp)) h fun _ _ h => listW_in R l (hR.imp id fun h o ho => h o (by simp [ho])) h

noncomputable def cOps (K : Tab) (det : Bool) (n : Nat) (call : FuncId → CF) (all : List Oper) (l : List Oper) : CC :=
  List.rec ⟨fun T H k => k .normal T H⟩ (fun o _ ih => ⟨fun T H k => (cOper K det n call all o).go T H fun T H => ih.go T H k⟩) l

theorem cOps_good {K : Tab} (hK : K.Ok) {det : Bool} {n : Nat} {call : FuncId → CF} (hf : ∀ f, (call f).Good K det f) (all : List Oper) : ∀ l : List Oper,
    CC.Good K det n (fun Q a w => ListW K.P all.toArray Q l a w) (cOps K det n call all l)
  | [], T, H, k, h => can_one .normal h fun Q a w hq => hq
  | o :: l, T, H, k, h => by
    have ih := cOps_good (n := n) hK hf all l
    refine can_then (W₁ := fun Q a w => opW K.P all.toArray o (Q .normal) Q a w) (y := cOps K det n call all l) (k := k) ?_ ih fun Q a w hh => opW_then hh
    obtain ⟨O, h1, h2, h3⟩ := cOper_good hK hf all o T H _ (show (cOper K det n call all o).go T H (fun T H => thenK (cOps K det n call all l) k .normal T H) = true from h)
    refine ⟨fun e T' H' => e = .normal ∧ O T' H', fun e T' H' ⟨he, hO⟩ => by subst he; exact h1 _ _ hO, ⟨?_, fun e T' H' ⟨he, hO⟩ => h2.2.1 _ _ hO, fun φ a w ht hg hw hfr Q hQ => ?_⟩, fun hd => ?_⟩
    · obtain ⟨T', H', hO⟩ := h2.1
      exact ⟨_, T', H', rfl, hO⟩
    · exact h2.2.2 φ a w ht hg hw (fun b hb ⟨T', H', hO, hlt⟩ => hfr b hb ⟨_, T', H', ⟨rfl, hO⟩, hlt⟩) _ Q fun T' H' ψ a' w' hO hgo ht' => hQ .normal T' H' ψ a' w' ⟨rfl, hO⟩ hgo ht'
    · obtain ⟨T', H', hone⟩ := h3 hd
      exact ⟨.normal, T', H', fun f U I ⟨hf, hO⟩ => ⟨hf, hone _ _ hO⟩⟩

/-! ### Rounds -/
noncomputable def loopC (b : CC) (fuel : Nat) : CC := Nat.rec CC.none (fun _ ih => ⟨fun T H k => b.go T H (thenK ih k)⟩) fuel
theorem loopC_good {K : Tab} {det : Bool} {n : Nat} {R : Option Nat} {c : Code} {b : CC} (hb : CC.Good K det n (fun Q a w => c.wpIn (FR R) 0 K.P Q a w) b) :
    ∀ fuel, CC.Good K det n (fun Q a w => Code.roundsIn (FR R) 0 K.P c Q fuel a w) (loopC b fuel)
  | 0 => CC.none_good K det n _
  | fuel + 1 => fun T H _k h => can_then (hb T H _ h) (loopC_good hb fuel) fun _Q _a _w hh => hh

/-! ### Blocks -/
noncomputable def blockK (id : Nat) (k : Ex → AT → AH → Bool) : Ex → AT → AH → Bool := fun e T H =>
  Ex.casesOn e (k .normal T H) (fun i => cond (Nat.beq i id) (k .normal T H) (k (.exit i) T H)) (fun l => k (.goto l) T H) (k .ret T H)
def blockE (id : Nat) : Ex → Ex
  | .exit i => if i = id then .normal else .exit i
  | e => e
theorem blockK_eq (id : Nat) (k : Ex → AT → AH → Bool) (e : Ex) (T : AT) (H : AH) : blockK id k e T H = k (blockE id e) T H := by
  cases e with
  | exit i =>
    show cond (Nat.beq i id) _ _ = _
    by_cases h : i = id
    · subst h; simp [blockE]
    · have : Nat.beq i id = false := by
        cases hb : Nat.beq i id with
        | true => exact absurd (beq_eq' hb) h
        | false => rfl
      rw [this]; simp [blockE, h]
  | _ => rfl
theorem block_to {id : Nat} {Q : Post} {e : Ex} {a : Act} {w : World} (h : Q (blockE id e).to a w) : Exit.inBlock id Q e.to a w := by
  cases e with
  | exit i =>
    simp only [blockE] at h
    simp only [Ex.to, Exit.inBlock]
    split <;> rename_i hi
    · rw [if_pos hi] at h; exact h
    · rw [if_neg hi] at h; exact h
  | _ => exact h

theorem can_block {K : Tab} {det : Bool} {n : Nat} {R : Option Nat} {c : Code} {T : AT} {H : AH} {k : Ex → AT → AH → Bool} {id : Nat} (h : CC.Can K det n (fun Q a w => c.wpIn (FR R) 0 K.P Q a w) T H (blockK id k)) :
    CC.Can K det n (fun Q a w => (Code.block id c).wpIn (FR R) 0 K.P Q a w) T H k := by
  obtain ⟨O, h1, h2, h3⟩ := h
  refine ⟨fun e T' H' => ∃ e', O e' T' H' ∧ e = blockE id e', fun e T' H' ⟨e', hO, he⟩ => ?_, ⟨?_, fun e T' H' ⟨e', hO, _⟩ => h2.2.1 _ _ _ hO, fun φ a w ht hg hw hfr Q hQ => ?_⟩, fun hd => ?_⟩
  · have := h1 _ _ _ hO
    rw [blockK_eq] at this
    rw [he]; exact this
  · obtain ⟨e, T', H', hO⟩ := h2.1
    exact ⟨_, T', H', e, hO, rfl⟩
  · exact wpIn_block (h2.2.2 φ a w ht hg hw (fun b hb ⟨e, T', H', hO, hlt⟩ => hfr b hb ⟨_, T', H', ⟨e, hO, rfl⟩, hlt⟩) _ fun e T' H' ψ a' w' hO hgo ht' => block_to (hQ _ T' H' ψ a' w' ⟨e, hO, rfl⟩ hgo ht'))
  · obtain ⟨e, T', H', hone⟩ := h3 hd
    exact ⟨_, T', H', fun f U I ⟨e', hO, hf⟩ => by obtain ⟨rfl, rfl, rfl⟩ := hone _ _ _ hO; exact ⟨hf, rfl, rfl⟩⟩

end GoX
