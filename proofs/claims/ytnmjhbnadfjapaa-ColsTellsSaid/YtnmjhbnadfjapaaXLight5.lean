/-
  THE OPERATIONS THAT CHANGE NO MEMORY: slices, maps that are asked, and all of them together. No program is named here.
-/
import Derived.Test.YtnmjhbnadfjapaaXLight4
namespace GoX
open Go

/-! ### Slices -/
structure CN where
  go : AT → Nat → (Nat → Bool) → Bool
/-- A bound that is not above another one; 'd' where there is none. -/
noncomputable def ceo (ng : Nat) (x : Option Operand) (d : Nat) : CN :=
  match x with
  | none => ⟨fun _ _ k => k d⟩
  | some x => ⟨fun T y k => (ce ng x).go T fun v => match v with
    | .int _ (.ofNat i) => cond (Nat.ble i y) (forceN i k) false
    | _ => false⟩
/-- What it says. -/
def IsBound (ng : Nat) (T : AT) (x : Option Operand) (d y r : Nat) : Prop :=
  match x with
  | none => r = d
  | some x => r ≤ y ∧ ∃ k, ev ng T x = some (.int k (.ofNat r))
theorem ceo_ok {ng : Nat} {x : Option Operand} {d : Nat} {T : AT} {y : Nat} {k : Nat → Bool} (h : (ceo ng x d).go T y k = true) : ∃ r, IsBound ng T x d y r ∧ k r = true := by
  cases x with
  | none => exact ⟨d, rfl, h⟩
  | some x =>
    obtain ⟨v, hv, h⟩ := ce_ok (show (ce ng x).go T _ = true from h)
    match v, h with
    | .int kd (.ofNat i), h =>
      obtain ⟨h1, h2⟩ := cond_true_of h
      simp only [forceN_eq] at h2
      exact ⟨i, ⟨ble_le h1, kd, hv⟩, h2⟩
theorem run_bound {P : Program} {ng : Nat} {T : AT} {x : Operand} {d y r : Nat} (h : IsBound ng T (some x) d y r) {φ : Phi} {a : Act} {l : List Operand} (hor : OR ng φ T a l) (hm : x ∈ l)
    {z : Nat} (hz : r ≤ z) (c : BoundsCode) (w : World) : (Instr.sliceBound (a.eval x) z c).run P w = .ok r w := by
  obtain ⟨_, k, hv⟩ := h
  have := conc_int (hor x hm _ hv)
  simp [Instr.sliceBound, this, asIntOf, hz]

/-- The bounds, read. -/
theorem run_bounds {P : Program} {ng : Nat} {T : AT} {lo hi mx : Option Operand} {len cap l h m : Nat} (isSlice : Bool) {φ : Phi} {a : Act} {ops : List Operand} (hor : OR ng φ T a ops)
    (h1 : ∀ x, lo = some x → x ∈ ops) (h2 : ∀ x, hi = some x → x ∈ ops) (h3 : ∀ x, mx = some x → x ∈ ops)
    {ym yh yl : Nat} (hm : IsBound ng T mx cap ym m) (hym : ym ≤ cap) (hh : IsBound ng T hi len yh h) (hyh : yh ≤ m) (hl : IsBound ng T lo 0 yl l) (hyl : yl ≤ h) (hboth : mx.isSome = true → hi.isSome = true) (w : World) :
    (Instr.sliceBounds isSlice len cap (lo.map a.eval) (hi.map a.eval) (mx.map a.eval)).run P w = .ok (l, h, m) w := by
  have rm : ∀ c, (match mx.map a.eval with | some v => Instr.sliceBound v cap c | none => pure cap : Sem Nat).run P w = .ok m w := by
    intro c
    cases mx with
    | none => cases hm; rfl
    | some x => exact run_bound hm hor (h3 x rfl) (Nat.le_trans hm.1 hym) c w
  have rl : ∀ c, (match lo.map a.eval with | some v => Instr.sliceBound v h c | none => pure 0 : Sem Nat).run P w = .ok l w := by
    intro c
    cases lo with
    | none => cases hl; rfl
    | some x => exact run_bound hl hor (h1 x rfl) (Nat.le_trans hl.1 hyl) c w
  unfold Instr.sliceBounds
  cases mx with
  | none =>
    cases hm
    cases hi with
    | none =>
      cases hh
      cases lo with
      | none => cases hl; simp
      | some x => simp [run_bound hl hor (h1 x rfl) (Nat.le_trans hl.1 hyl)]
    | some y =>
      have := run_bound (P := P) hh hor (h2 y rfl) (Nat.le_trans hh.1 hyh) (if isSlice then .sliceAcap else .sliceAlen) w
      cases lo with
      | none => cases hl; simp [this]
      | some x => simp [this, run_bound hl hor (h1 x rfl) (Nat.le_trans hl.1 hyl)]
  | some z =>
    have hz := run_bound (P := P) hm hor (h3 z rfl) (Nat.le_trans hm.1 hym) (if isSlice then .slice3Acap else .slice3Alen) w
    cases hi with
    | none => simp at hboth
    | some y =>
      have := run_bound (P := P) hh hor (h2 y rfl) (Nat.le_trans hh.1 hyh) .slice3B w
      cases lo with
      | none => cases hl; simp [this, hz]
      | some x => simp [this, hz, run_bound hl hor (h1 x rfl) (Nat.le_trans hl.1 hyl)]

noncomputable def sliceK (ng size : Nat) (lo hi mx : Option Operand) (T : AT) (a : Option (Nat × Nat)) (len : Nat) (cap : Cap) (k : AV → Bool) : Bool :=
  match cap with
  | .exact c => (ceo ng mx c).go T c fun m => (ceo ng hi len).go T m fun h => (ceo ng lo 0).go T h fun l => forceN (h - l) fun n => forceN (m - l) fun q =>
      cond (Nat.beq m l) (k (.sl a n (.exact q))) (match a with
        | some (b, o) => forceN (o + l * size) fun o => k (.sl (some (b, o)) n (.exact q))
        | none => false)
  | .opened lo0 => match a with
    | some (b, o) => match mx with
      | none => (ceo ng hi len).go T len fun h => (ceo ng lo 0).go T h fun l => forceN (h - l) fun n =>
          cond (Nat.blt l len) (forceN (o + l * size) fun o => forceN (lo0 + l) fun q => k (.sl (some (b, o)) n (.opened q)))
            (cond (Nat.beq l 0) (k (.sl (some (b, o)) n (.opened lo0))) (forceN (o + l * size) fun p => forceN (lo0 + l) fun q => k (.sl (some (b, p)) 0 (.edge q o))))
      | some mx => (ceo ng (some mx) 0).go T len fun m => (ceo ng hi len).go T m fun h => (ceo ng lo 0).go T h fun l => forceN (h - l) fun n => forceN (m - l) fun q =>
          cond (Nat.beq m l) (k (.sl (some (b, o)) n (.exact q))) (forceN (o + l * size) fun o => k (.sl (some (b, o)) n (.exact q)))
    | none => false
  | .edge _ _ => false

/-- What a slice expression gives of a slice. -/
theorem sliceK_ok {ng size : Nat} {lo hi mx : Option Operand} {T : AT} {a : Option (Nat × Nat)} {len : Nat} {cap : Cap} {k : AV → Bool} (h : sliceK ng size lo hi mx T a len cap k = true)
    (hboth : mx.isSome = true → hi.isSome = true) :
    ∃ v, (∀ (P : Program) (sb : Bool) (φ : Phi) (ac : Act) (w : World) (ops : List Operand) (x : Value), OR ng φ T ac ops → (∀ x, lo = some x → x ∈ ops) → (∀ x, hi = some x → x ∈ ops) → (∀ x, mx = some x → x ∈ ops) →
      conc φ (.sl a len cap) = some x → ∃ r p n c l h m, x = .slice p n c ∧ conc φ v = some r ∧ (Instr.sliceBounds sb n c (lo.map ac.eval) (hi.map ac.eval) (mx.map ac.eval)).run P w = .ok (l, h, m) w ∧
        r = .slice (if m = l then p else p.map (·.add (l * size))) (h - l) (m - l)) ∧ k v = true := by
  unfold sliceK at h
  cases cap with
  | exact c =>
    obtain ⟨m, hm, h⟩ := ceo_ok h
    obtain ⟨hh, hhi, h⟩ := ceo_ok h
    obtain ⟨l, hl, h⟩ := ceo_ok h
    simp only [forceN_eq] at h
    cases hml : Nat.beq m l with
    | true =>
      rw [hml, cond_true] at h
      refine ⟨_, fun P sb φ ac w ops x hor h1 h2 h3 hx => ?_, h⟩
      simp only [conc, concSl] at hx
      cases hp : concP φ a with
      | none => rw [hp] at hx; cases hx
      | some p =>
        rw [hp] at hx; cases hx
        exact ⟨.slice p (hh - l) (m - l), p, len, c, l, hh, m, rfl, by simp only [conc, concSl, hp], run_bounds sb hor h1 h2 h3 hm (Nat.le_refl _) hhi (Nat.le_refl _) hl (Nat.le_refl _) hboth w, by rw [if_pos (beq_eq' hml)]⟩
    | false =>
      rw [hml, cond_false] at h
      have hne : ¬ m = l := fun e => by rw [e] at hml; simp at hml
      rcases a with _ | ⟨b, o⟩
      · cases h
      · simp only at h
        refine ⟨_, fun P sb φ ac w ops x hor h1 h2 h3 hx => ?_, h⟩
        simp only [conc, concSl, concP] at hx
        cases hb : φ b with
        | none => rw [hb] at hx; cases hx
        | some L =>
          rw [hb] at hx; cases hx
          exact ⟨.slice (some ⟨L.b, L.o + (o + l * size), none⟩) (hh - l) (m - l), _, len, c, l, hh, m, rfl, by simp only [conc, concSl, concP, hb], run_bounds sb hor h1 h2 h3 hm (Nat.le_refl _) hhi (Nat.le_refl _) hl (Nat.le_refl _) hboth w,
            by rw [if_neg hne]; simp [add_eq, Nat.add_assoc]⟩
  | opened lo0 =>
    rcases a with _ | ⟨b, o⟩
    · cases h
    · cases mx with
      | none =>
        simp only at h
        obtain ⟨hh, hhi, h⟩ := ceo_ok h
        obtain ⟨l, hl, h⟩ := ceo_ok h
        simp only [forceN_eq] at h
        have hlen : hh ≤ len := by cases hi with | none => cases hhi; exact Nat.le_refl _ | some y => exact hhi.1
        have hlh : l ≤ hh := by cases lo with | none => cases hl; exact Nat.zero_le _ | some y => exact hl.1
        have hbd : ∀ (P : Program) (sb : Bool) (φ : Phi) (ac : Act) (w : World) (ops : List Operand), OR ng φ T ac ops → (∀ x, lo = some x → x ∈ ops) → (∀ x, hi = some x → x ∈ ops) → ∀ C, len ≤ C →
            (Instr.sliceBounds sb len C (lo.map ac.eval) (hi.map ac.eval) (Option.map ac.eval none)).run P w = .ok (l, hh, C) w :=
          fun P sb φ ac w ops hor h1 h2 C hC => run_bounds sb hor h1 h2 (fun _ e => by cases e) (m := C) (mx := none) (ym := 0) rfl (Nat.zero_le _) hhi hC hl (Nat.le_refl _) (fun e => by cases e) w
        cases hlt : Nat.blt l len with
        | true =>
          rw [hlt, cond_true] at h
          have hlt' := blt_lt hlt
          refine ⟨_, fun P sb φ ac w ops x hor h1 h2 h3 hx => ?_, h⟩
          simp only [conc, concSl] at hx
          cases hb : φ b with
          | none => rw [hb] at hx; cases hx
          | some L =>
            rw [hb] at hx
            simp only at hx
            split at hx
            · rename_i hk
              cases hx
              refine ⟨_, _, len, L.k - lo0, l, hh, L.k - lo0, rfl, ?_, hbd P sb φ ac w ops hor h1 h2 _ (by omega), rfl⟩
              simp only [conc, concSl, hb]
              rw [if_pos (by omega), if_neg (by omega)]
              simp only [Option.map_some, add_eq, Nat.add_assoc]
              rw [show L.k - lo0 - l = L.k - (lo0 + l) by omega]
            · cases hx
        | false =>
          rw [hlt, cond_false] at h
          have hge : len ≤ l := by
            rcases Nat.lt_or_ge l len with h' | h'
            · have : Nat.blt l len = true := by simp [Nat.blt_eq, h']
              rw [this] at hlt; cases hlt
            · exact h'
          cases hl0 : Nat.beq l 0 with
          | true =>
            rw [hl0, cond_true] at h
            have hl0' := beq_eq' hl0
            subst hl0'
            refine ⟨_, fun P sb φ ac w ops x hor h1 h2 h3 hx => ?_, h⟩
            have hx0 := hx
            simp only [conc, concSl] at hx
            cases hb : φ b with
            | none => rw [hb] at hx; cases hx
            | some L =>
              rw [hb] at hx
              simp only at hx
              split at hx
              · rename_i hk
                cases hx
                refine ⟨_, _, len, L.k - lo0, 0, hh, L.k - lo0, rfl, ?_, hbd P sb φ ac w ops hor h1 h2 _ (by omega), rfl⟩
                simp only [conc, concSl, hb]
                rw [if_pos (by omega)]
                simp [add_eq]
              · cases hx
          | false =>
            rw [hl0, cond_false] at h
            refine ⟨_, fun P sb φ ac w ops x hor h1 h2 h3 hx => ?_, h⟩
            simp only [conc, concSl] at hx
            cases hb : φ b with
            | none => rw [hb] at hx; cases hx
            | some L =>
              rw [hb] at hx
              simp only at hx
              split at hx
              · rename_i hk
                cases hx
                refine ⟨_, _, len, L.k - lo0, l, hh, L.k - lo0, rfl, ?_, hbd P sb φ ac w ops hor h1 h2 _ (by omega), rfl⟩
                simp only [conc, concSl, hb]
                rw [if_pos (show True ∧ lo0 + l ≤ L.k from ⟨trivial, by omega⟩)]
                have e1 : hh - l = 0 := by omega
                have e2 : L.k - lo0 - l = L.k - (lo0 + l) := by omega
                rw [e1, e2]
                by_cases hc : L.k - lo0 = l
                · rw [if_pos hc, if_pos (by omega)]
                · rw [if_neg hc, if_neg (by omega)]
                  simp [add_eq, Nat.add_assoc]
              · cases hx
      | some mx =>
        simp only at h
        obtain ⟨m, hm, h⟩ := ceo_ok h
        obtain ⟨hh, hhi, h⟩ := ceo_ok h
        obtain ⟨l, hl, h⟩ := ceo_ok h
        simp only [forceN_eq] at h
        have hbd : ∀ (P : Program) (sb : Bool) (φ : Phi) (ac : Act) (w : World) (ops : List Operand), OR ng φ T ac ops → (∀ x, lo = some x → x ∈ ops) → (∀ x, hi = some x → x ∈ ops) → (∀ x, some mx = some x → x ∈ ops) → ∀ C, len ≤ C →
            (Instr.sliceBounds sb len C (lo.map ac.eval) (hi.map ac.eval) (Option.map ac.eval (some mx))).run P w = .ok (l, hh, m) w :=
          fun P sb φ ac w ops hor h1 h2 h3 C hC => run_bounds sb hor h1 h2 h3 (cap := C) (ym := len) (show IsBound ng T (some mx) C len m from hm) hC hhi (Nat.le_refl _) hl (Nat.le_refl _) hboth w
        cases hml : Nat.beq m l with
        | true =>
          rw [hml, cond_true] at h
          refine ⟨_, fun P sb φ ac w ops x hor h1 h2 h3 hx => ?_, h⟩
          simp only [conc, concSl] at hx
          cases hb : φ b with
          | none => rw [hb] at hx; cases hx
          | some L =>
            rw [hb] at hx
            simp only at hx
            split at hx
            · rename_i hk
              cases hx
              refine ⟨_, _, len, L.k - lo0, l, hh, m, rfl, ?_, hbd P sb φ ac w ops hor h1 h2 h3 _ (by omega), rfl⟩
              simp only [conc, concSl, concP, hb]
              rw [if_pos (beq_eq' hml)]
            · cases hx
        | false =>
          rw [hml, cond_false] at h
          have hne : ¬ m = l := fun e => by rw [e] at hml; simp at hml
          refine ⟨_, fun P sb φ ac w ops x hor h1 h2 h3 hx => ?_, h⟩
          simp only [conc, concSl] at hx
          cases hb : φ b with
          | none => rw [hb] at hx; cases hx
          | some L =>
            rw [hb] at hx
            simp only at hx
            split at hx
            · rename_i hk
              cases hx
              refine ⟨_, _, len, L.k - lo0, l, hh, m, rfl, ?_, hbd P sb φ ac w ops hor h1 h2 h3 _ (by omega), rfl⟩
              simp only [conc, concSl, concP, hb]
              rw [if_neg hne]
              simp [add_eq, Nat.add_assoc]
            · cases hx
  | edge _ _ => cases h


/-! ### A slice of a row grown by append, taken longer than it is: as far as the row is known -/
noncomputable def lenF (l : List AV) : Nat := List.rec 0 (fun _ _ ih => Nat.succ ih) l
theorem lenF_eq : ∀ l : List AV, lenF l = l.length
  | [] => rfl
  | _ :: l => congrArg Nat.succ (lenF_eq l)
noncomputable def widen (ng : Nat) (H : AH) (T : AT) (size : Nat) (a : Option (Nat × Nat)) (n : Nat) (c : Cap) (hi : Option Operand) (k : Nat → Bool) : Bool :=
  match c, a, hi with
  | .opened lo0, some (b, _), some y => (ce ng y).go T fun v => match v with
    | .int _ (.ofNat h) => cond (Nat.ble h n) (k n) (Trie.getK (bits b) H.t false fun blk => match blk with
      | .cells cl _ (.succ (.succ s)) => cond (Nat.beq s size && Nat.blt 0 size) (forceN (lenF cl / size - lo0) fun m => cond (Nat.ble n m) (k m) false) false
      | _ => false)
    | _ => false
  | _, _, _ => k n
theorem conc_wide {φ : Phi} {b o n m lo0 : Nat} {L : Loc} (hL : φ b = some L) (hm : m + lo0 ≤ L.k) {x : Value} (hx : conc φ (.sl (some (b, o)) n (.opened lo0)) = some x) :
    ∃ p cap, x = .slice p n cap ∧ conc φ (.sl (some (b, o)) m (.opened lo0)) = some (.slice p m cap) := by
  simp only [conc, concSl, hL] at hx ⊢
  split at hx
  · cases hx
    exact ⟨_, _, rfl, by rw [if_pos hm]⟩
  · cases hx
theorem widen_ok {ng : Nat} {H : AH} {T : AT} {size : Nat} {a : Option (Nat × Nat)} {n : Nat} {c : Cap} {hi : Option Operand} {k : Nat → Bool} (h : widen ng H T size a n c hi k = true) :
    ∃ m, (m = n ∨ hi.isSome = true) ∧ (∀ (φ : Phi) (w : World) (x : Value), WR φ H.get w → conc φ (.sl a n c) = some x → ∃ p cap, x = .slice p n cap ∧ conc φ (.sl a m c) = some (.slice p m cap)) ∧ k m = true := by
  have same : k n = true → ∃ m, (m = n ∨ hi.isSome = true) ∧ (∀ (φ : Phi) (w : World) (x : Value), WR φ H.get w → conc φ (.sl a n c) = some x → ∃ p cap, x = .slice p n cap ∧ conc φ (.sl a m c) = some (.slice p m cap)) ∧ k m = true :=
    fun hk => ⟨n, .inl rfl, fun φ w x _ hx => by
      obtain ⟨p, cap, e⟩ := conc_sl_len hx
      exact ⟨p, cap, e, by rw [hx, e]⟩, hk⟩
  unfold widen at h
  split at h
  · rename_i lo0 b o y
    obtain ⟨v, hv, h⟩ := ce_ok h
    match v, h with
    | .int kd (.ofNat h0), h =>
      dsimp only at h
      cases hle : Nat.ble h0 n with
      | true => rw [hle, cond_true] at h; exact same h
      | false =>
        rw [hle, cond_false] at h
        obtain ⟨blk, hb, h⟩ := getK_ok h
        match blk, hb, h with
        | .cells cl e (s + 2), hb, h =>
          obtain ⟨hg, h⟩ := cond_true_of h
          simp only [Bool.and_eq_true] at hg
          obtain ⟨hs, h0s⟩ := hg
          have hs := beq_eq' hs
          subst hs
          have h0s := blt_lt h0s
          rw [forceN_eq] at h
          obtain ⟨hnm, h⟩ := cond_true_of h
          have hnm := ble_le hnm
          rw [lenF_eq] at hnm h
          refine ⟨_, .inr rfl, fun φ w x hw hx => ?_, h⟩
          obtain ⟨L, hL, hlo⟩ : ∃ L, φ b = some L ∧ n + lo0 ≤ L.k := by
            simp only [conc, concSl] at hx
            cases hφ : φ b with
            | none => rw [hφ] at hx; cases hx
            | some L =>
              rw [hφ] at hx
              simp only at hx
              split at hx
              · rename_i hk; exact ⟨L, rfl, hk⟩
              · cases hx
          obtain ⟨obj, _, cs, pre, post, lo, hi, hcs, _, _, hlen, _⟩ := hw.real b _ L hb hL
          have hcl := concs_length hcs
          refine conc_wide hL ?_ hx
          have h2 : cl.length / s ≤ L.k := by
            apply Nat.div_le_of_le_mul
            rw [Nat.mul_comm]
            rw [← hlen, List.length_append]; omega
          omega
  · exact same h

noncomputable def lSlice (K : Tab) (t : TypeId) (x : Operand) (lo hi mx : Option Operand) : CL :=
  match mx.isSome && !hi.isSome with
  | true => CL.none
  | false => match K.und t with
    | some .string => match mx with
      | some _ => CL.none
      | none => ⟨fun T _ k => (ce K.ng x).go T fun v => match v with
        | .str s => (ceo K.ng hi s.length).go T s.length fun h => (ceo K.ng lo 0).go T h fun l => forceU ((s.take h).drop l) fun s => k (.str s)
        | _ => false⟩
    | some (.slice e) => match K.inf e with
      | some j => ⟨fun T H k => (ce K.ng x).go T fun v => match v with
        | .sl a n c => widen K.ng H T j.size a n c hi fun n => sliceK K.ng j.size lo hi mx T a n c k
        | _ => false⟩
      | none => CL.none
    | some (.array n e) => match K.inf e with
      | some j => ⟨fun T _ k => (ce K.ng x).go T fun v => match v with
        | .ptr (some a) => sliceK K.ng j.size lo hi mx T (some a) n (.exact n) k
        | _ => false⟩
      | none => CL.none
    | _ => CL.none

theorem extract_mk (s : List UInt8) (l h : Nat) : (⟨s.toArray⟩ : ByteArray).extract l h = ⟨((s.take h).drop l).toArray⟩ := by
  apply ByteArray.ext
  apply Array.ext'
  simp [ByteArray.data_extract, List.extract_eq_take_drop, List.drop_take]

theorem lSlice_good {K : Tab} (hK : K.Ok) (t : TypeId) (x : Operand) (lo hi mx : Option Operand) : CL.Good K (.slice t x lo hi mx) (lSlice K t x lo hi mx) := fun T H k h => by
  unfold lSlice at h
  split at h
  · cases h
  · rename_i hb
    have hboth : mx.isSome = true → hi.isSome = true := fun e => by rw [e] at hb; simpa using hb
    have m0 : x ∈ (Op.slice t x lo hi mx).operands.toList := by simp [Op.operands]
    have m1 : ∀ z, lo = some z → z ∈ (Op.slice t x lo hi mx).operands.toList := fun z e => by subst e; simp [Op.operands]
    have m2 : ∀ z, hi = some z → z ∈ (Op.slice t x lo hi mx).operands.toList := fun z e => by subst e; simp [Op.operands]
    have m3 : ∀ z, mx = some z → z ∈ (Op.slice t x lo hi mx).operands.toList := fun z e => by subst e; simp [Op.operands]
    split at h
    · rename_i hs
      split at h
      · cases h
      · obtain ⟨v, hv, h⟩ := ce_ok h
        match v, h with
        | .str s, h =>
          obtain ⟨q, hq, h⟩ := ceo_ok h
          obtain ⟨l, hl, h⟩ := ceo_ok h
          simp only [forceU_eq] at h
          refine ⟨_, fun φ ac w hor hw => ⟨_, rfl, fun o ho => ?_⟩, h⟩
          have hp := conc_str (hor x m0 _ hv)
          have hsz : (⟨s.toArray⟩ : ByteArray).size = s.length := by simp [ByteArray.size]
          have hbd := run_bounds (P := K.P) (len := s.length) (cap := s.length) (mx := none) (m := s.length) (ym := 0) false hor m1 m2 (fun _ e => by cases e) rfl (Nat.zero_le _) hq (Nat.le_refl _) hl (Nat.le_refl _) (fun e => by cases e) w
          simp only [execOp, ho]
          refine run_value ?_
          simp only [Option.map_none] at hbd
          simp [Instr.sliceAt, Instr.slice, Sem.run_bind, hK.runUnd hs, hp, hsz, hbd, extract_mk]
    · rename_i e hs
      split at h
      · rename_i j hj
        obtain ⟨v, hv, h⟩ := ce_ok h
        match v, h with
        | .sl a n c, h =>
          obtain ⟨wd, hwd, hwide, h⟩ := widen_ok h
          obtain ⟨u, hu, hk⟩ := sliceK_ok h hboth
          refine ⟨u, fun φ ac w hor hw => ?_, hk⟩
          obtain ⟨p0, cap0, hx, hx2⟩ := hwide φ w _ hw (hor x m0 _ hv)
          obtain ⟨r, p, n', c', l, q, m, hx3, hr, hrun, hval⟩ := hu K.P true φ ac w _ _ hor m1 m2 m3 hx2
          cases hx3
          have hrun : (Instr.sliceBounds true n cap0 (lo.map ac.eval) (hi.map ac.eval) (mx.map ac.eval)).run K.P w = .ok (l, q, m) w := by
            rcases hwd with e | e
            · rw [← e]; exact hrun
            · obtain ⟨y, rfl⟩ := Option.isSome_iff_exists.1 e
              rw [show Instr.sliceBounds true n cap0 (lo.map ac.eval) ((some y).map ac.eval) (mx.map ac.eval) = Instr.sliceBounds true wd cap0 (lo.map ac.eval) ((some y).map ac.eval) (mx.map ac.eval) from by cases mx <;> rfl]
              exact hrun
          refine ⟨r, hr, fun o ho => ?_⟩
          simp only [execOp, ho]
          refine run_value ?_
          simp only [Instr.sliceAt, Instr.slice, Sem.run_bind, hK.runUnd hs, Result.andThen_ok, hx, hrun, runSize hK hj, Sem.run_pure, hval]
      · cases h
    · rename_i n e hs
      split at h
      · rename_i j hj
        obtain ⟨v, hv, h⟩ := ce_ok h
        match v, h with
        | .ptr (some (b, o)), h =>
          obtain ⟨u, hu, hk⟩ := sliceK_ok h hboth
          refine ⟨u, fun φ ac w hor hw => ?_, hk⟩
          obtain ⟨L, hL, hp⟩ := conc_ptr (hor x m0 _ hv)
          have hc : conc φ (.sl (some (b, o)) n (.exact n)) = some (.slice (some ⟨L.b, L.o + o, none⟩) n n) := by simp only [conc, concSl, concP, hL]
          obtain ⟨r, p, n', c', l, q, m, hx, hr, hrun, hval⟩ := hu K.P false φ ac w _ _ hor m1 m2 m3 hc
          cases hx
          refine ⟨r, hr, fun o ho => ?_⟩
          simp only [execOp, ho]
          refine run_value ?_
          simp only [Instr.sliceAt, Sem.run_bind, hK.runUnd hs, Result.andThen_ok, hp, Instr.sureAddr, hrun, runSize hK hj, Sem.run_pure, hval]
          split <;> simp
      · cases h
    · cases h

/-! ### Numbers of one kind out of another; texts as they are -/
noncomputable def lConv (K : Tab) (src dst : TypeId) (x : Operand) : CL :=
  match K.und src with
  | some _ => match K.und dst with
    | some (.int i) => ⟨fun T _ k => (ce K.ng x).go T fun v => match v with
      | .int _ n => forceI (wrapA i n) fun n => k (.int i n)
      | _ => false⟩
    | some .string => ⟨fun T _ k => (ce K.ng x).go T fun v => match v with
      | .str s => k (.str s)
      | _ => false⟩
    | _ => CL.none
  | none => CL.none
theorem lConv_good {K : Tab} (hK : K.Ok) (src dst : TypeId) (x : Operand) : CL.Good K (.convert src dst x) (lConv K src dst x) := fun T H k h => by
  unfold lConv at h
  split at h
  · rename_i d hd
    split at h
    · rename_i i hs
      obtain ⟨v, hv, h⟩ := ce_ok h
      match v, h with
      | .int kd n, h =>
        simp only [forceI_eq] at h
        refine ⟨_, fun φ ac w hor hw => ⟨_, rfl, fun o ho => ?_⟩, h⟩
        have hp := conc_int (hor x (by simp [Op.operands]) _ hv)
        simp only [execOp, ho]
        refine run_value ?_
        simp only [convert, Sem.run_bind, hK.runUnd hd, hK.runUnd hs, Result.andThen_ok, hp]
        cases d <;> simp [Conv.intToInt, wrapA_eq]
    · rename_i hs
      obtain ⟨v, hv, h⟩ := ce_ok h
      match v, h with
      | .str s, h =>
        refine ⟨_, fun φ ac w hor hw => ⟨_, rfl, fun o ho => ?_⟩, h⟩
        have hp := conc_str (hor x (by simp [Op.operands]) _ hv)
        simp only [execOp, ho]
        refine run_value ?_
        simp only [convert, Sem.run_bind, hK.runUnd hd, hK.runUnd hs, Result.andThen_ok, hp]
        cases d <;> simp
    · cases h
  · cases h

/-! ### Assertions -/
noncomputable def Tab.zero (K : Tab) (t : TypeId) : Option AV :=
  match K.inf t with
  | some i => match i.zero with
    | some v => ofV v
    | none => none
  | none => none
theorem Tab.Ok.runZero {K : Tab} (hK : K.Ok) {t : TypeId} {z : AV} (h : K.zero t = some z) (φ : Phi) (w : World) : ∃ x, conc φ z = some x ∧ (zeroValue t).run K.P w = .ok x w := by
  unfold Tab.zero at h
  cases hi : K.inf t with
  | none => rw [hi] at h; cases h
  | some i =>
    rw [hi] at h
    simp only at h
    cases hz : i.zero with
    | none => rw [hz] at h; cases h
    | some v =>
      rw [hz] at h
      exact ⟨v, conc_ofV φ h, by simp [zeroValue, hK.runInf hi, hz]⟩

noncomputable def lAssert (K : Tab) (x : Operand) (asserted : TypeId) (ok : Bool) : CL :=
  match K.und asserted with
  | some d => match notIface d with
    | true => match ok with
      | true => match K.zero asserted with
        | some z => ⟨fun T _ k => (ce K.ng x).go T fun v => match v with
          | .nilIfc => k (.tup [z, .bool false])
          | .ifc t v => cond (Nat.beq t asserted) (k (.tup [v, .bool true])) (k (.tup [z, .bool false]))
          | _ => false⟩
        | none => CL.none
      | false => ⟨fun T _ k => (ce K.ng x).go T fun v => match v with
        | .ifc t v => cond (Nat.beq t asserted) (k v) false
        | _ => false⟩
    | false => CL.none
  | none => CL.none
theorem lAssert_good {K : Tab} (hK : K.Ok) (x : Operand) (u asserted : TypeId) (ok : Bool) : CL.Good K (.typeAssert x u asserted ok) (lAssert K x asserted ok) := fun T H k h => by
  unfold lAssert at h
  split at h
  · rename_i d hd
    split at h
    · rename_i hn
      split at h
      · split at h
        · rename_i z hz
          obtain ⟨v, hv, h⟩ := ce_ok h
          match v, h with
          | .nilIfc, h =>
            refine ⟨_, fun φ ac w hor hw => ?_, h⟩
            obtain ⟨zx, hzx, hrz⟩ := hK.runZero hz φ w
            have hp : ac.eval x = .nilIface := by have := hor x (by simp [Op.operands]) _ hv; simpa [conc] using this.symm
            refine ⟨_, conc_tup_mk (concs_cons_mk hzx (concs_cons_mk rfl rfl)), fun o ho => ?_⟩
            simp only [execOp, ho]
            refine run_value ?_
            simp only [Instr.typeAssert, Sem.run_bind, hK.runUnd hd, Result.andThen_ok, hp]
            cases d <;> first | (cases hn; done) | simp [hrz]
          | .ifc t v, h =>
            cases ht : Nat.beq t asserted with
            | true =>
              simp only [ht, cond_true] at h
              have ht' := beq_eq' ht
              refine ⟨_, fun φ ac w hor hw => ?_, h⟩
              obtain ⟨y, hy, hp⟩ := conc_ifc (hor x (by simp [Op.operands]) _ hv)
              refine ⟨_, conc_tup_mk (concs_cons_mk hy (concs_cons_mk rfl rfl)), fun o ho => ?_⟩
              simp only [execOp, ho]
              refine run_value ?_
              simp only [Instr.typeAssert, Sem.run_bind, hK.runUnd hd, Result.andThen_ok, hp]
              cases d <;> first | (cases hn; done) | simp [ht']
            | false =>
              simp only [ht, cond_false] at h
              have ht' : ¬ t = asserted := fun e => by rw [e] at ht; simp at ht
              refine ⟨_, fun φ ac w hor hw => ?_, h⟩
              obtain ⟨zx, hzx, hrz⟩ := hK.runZero hz φ w
              obtain ⟨y, hy, hp⟩ := conc_ifc (hor x (by simp [Op.operands]) _ hv)
              refine ⟨_, conc_tup_mk (concs_cons_mk hzx (concs_cons_mk rfl rfl)), fun o ho => ?_⟩
              simp only [execOp, ho]
              refine run_value ?_
              simp only [Instr.typeAssert, Sem.run_bind, hK.runUnd hd, Result.andThen_ok, hp]
              cases d <;> first | (cases hn; done) | simp [ht', hrz]
        · cases h
      · obtain ⟨v, hv, h⟩ := ce_ok h
        match v, h with
        | .ifc t v, h =>
          obtain ⟨ht, h⟩ := cond_true_of h
          have ht' := beq_eq' ht
          refine ⟨_, fun φ ac w hor hw => ?_, h⟩
          obtain ⟨y, hy, hp⟩ := conc_ifc (hor x (by simp [Op.operands]) _ hv)
          refine ⟨y, hy, fun o ho => ?_⟩
          simp only [execOp, ho]
          refine run_value ?_
          simp only [Instr.typeAssert, Sem.run_bind, hK.runUnd hd, Result.andThen_ok, hp]
          cases d <;> first | (cases hn; done) | simp [ht']
    · cases h
  · cases h

end GoX
