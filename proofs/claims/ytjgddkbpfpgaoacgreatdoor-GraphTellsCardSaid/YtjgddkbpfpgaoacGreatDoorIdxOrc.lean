/-
  WHERE A BYTE STANDS IN A TEXT, as a run takes it by its contract.
-/
import Derived.Test.YtjgddkbpfpgaoacGreatDoorShelf
import Derived.Test.YtjgddkbpfpgaoacGreatDoorXCodeH
import Derived.RangeFuncStops
namespace Go.Proofs.YtjgddkbpfpgaoacGreatDoor
open Go.ChangeShapes Go.WideShapes Go.ChangeAt Go.RowKit

/-- A function that is called with plain data, and leaves the world. -/
structure OrcP (K : GoX.Tab) (f : FuncId) (fo : List GoX.AV → (GoX.AV → Bool) → Bool) : Prop where
  enter : GoX.Entered K f
  ok : ∀ args k, fo args k = true → GoX.isMark args = false ∧ ∃ out, k out = true ∧ ∀ (φ : GoX.Phi) (xs : List Value) (w : World), GoX.concs φ args = some xs → ∃ x, GoX.conc φ out = some x ∧ Calls K.P f xs.toArray w fun e w' => e = .returned x ∧ w' = w
noncomputable def orcPF (fo : List GoX.AV → (GoX.AV → Bool) → Bool) : GoX.CF := ⟨fun args H k => fo args fun v => k v H⟩
open GoX in
theorem orcP_good {K : Tab} {f : FuncId} {fo : List AV → (AV → Bool) → Bool} (ho : OrcP K f fo) : (orcPF fo).Good K true f := fun args H k h => by
  obtain ⟨hm, out, hk, hc⟩ := ho.ok args (fun v => k v H) h
  refine ⟨fun _ => ho.enter, fun v I => v = out ∧ I = H, fun v I e => by rw [e.1, e.2]; exact hk, ⟨⟨_, _, rfl, rfl⟩, fun v I e => by rw [e.2]; exact Nat.le_refl _, fun φ xs w hxs hg hw hfr R hR => ?_⟩, fun _ => ⟨_, _, fun _ _ e => e⟩⟩
  obtain ⟨x, hx, hcalls⟩ := hc φ xs w hxs
  refine (Runs.calls hm).2 (hcalls.mono fun e' w' hh => ?_)
  obtain ⟨rfl, rfl⟩ := hh
  exact hR _ _ _ _ _ ⟨rfl, rfl⟩ (Goes.refl hw) hx
noncomputable def idxK (c : Nat) (k : GoX.AV → Bool) : List UInt8 → Nat → Bool
  | [], _ => k (.int .i64 (.negSucc 0))
  | b :: l, i => cond (Nat.beq b.toNat c) (k (.int .i64 (.ofNat i))) (GoX.forceN (i + 1) fun i => idxK c k l i)
theorem idxK_eq (c : Nat) (hc : c < 256) (k : GoX.AV → Bool) : ∀ (l : List UInt8) (i : Nat), idxK c k l i = k (.int .i64 (if Lib.indexByte l (UInt8.ofNat c) = -1 then -1 else Lib.indexByte l (UInt8.ofNat c) + i))
  | [], i => rfl
  | b :: l, i => by
    have hb : (b == UInt8.ofNat c) = Nat.beq b.toNat c := by
      by_cases h : b.toNat = c
      · have e : b = UInt8.ofNat c := by rw [← h]; simp
        rw [e]
        have e2 : (UInt8.ofNat c).toNat = c := by rw [← e]; exact h
        rw [e2]
        simp
      · have e : b ≠ UInt8.ofNat c := fun e => h (by rw [e]; simp [UInt8.toNat_ofNat']; omega)
        rw [beq_eq_false_iff_ne.2 e]
        symm
        rw [← Bool.not_eq_true]
        intro h2
        exact h (Nat.eq_of_beq_eq_true h2)
    unfold idxK
    unfold Lib.indexByte
    rw [hb]
    cases hn : Nat.beq b.toNat c with
    | true => simp
    | false =>
      rw [cond_false, GoX.forceN_eq, idxK_eq c hc k l (i + 1)]
      have hge := Lib.indexByte_ge l (UInt8.ofNat c)
      by_cases h1 : Lib.indexByte l (UInt8.ofNat c) = -1
      · simp [h1]
      · have h2 : (Lib.indexByte l (UInt8.ofNat c) == -1) = false := beq_eq_false_iff_ne.2 h1
        simp only [h2, Bool.false_eq_true, if_false]
        rw [if_neg h1, if_neg (by omega)]
        congr 2
        omega
noncomputable def idxF : List GoX.AV → (GoX.AV → Bool) → Bool
  | [.str s, .int .u8 (.ofNat c)], k => cond (Nat.blt c 256) (idxK c k s 0) false
  | _, _ => false
theorem idx_orc {K : GoX.Tab} (hK : K.P = Tryz.prog) : OrcP K 66 idxF := by
  refine ⟨⟨fun xs w => by rw [hK]; exact enters_of Tryz.func66 (by kernel_rfl) rfl xs w⟩, fun args k h => ?_⟩
  unfold idxF at h
  split at h
  · rename_i s c
    obtain ⟨hc, h⟩ := GoX.cond_true_of h
    have hc := GoX.blt_lt hc
    rw [idxK_eq c hc k s 0] at h
    refine ⟨rfl, _, h, fun φ xs w hxs => ?_⟩
    obtain ⟨x, ys, hx, hys, rfl⟩ := GoX.concs_cons hxs
    obtain ⟨y, zs, hy, hzs, rfl⟩ := GoX.concs_cons hys
    obtain rfl := GoX.concs_nil hzs
    simp only [GoX.conc, Option.some.injEq] at hx hy
    subst hx hy
    refine ⟨_, rfl, ?_⟩
    rw [hK]
    refine (Tryz.stringslite_IndexByte ⟨s.toArray⟩ (Int.ofNat c) w).mono fun e w' ⟨he, hw⟩ => ⟨?_, hw⟩
    rw [he]
    have e1 : Lib.indexByte (⟨s.toArray⟩ : ByteArray).data.toList (Int.ofNat c).toNat.toUInt8 = Lib.indexByte s (UInt8.ofNat c) := by
      simp
    rw [e1]
    by_cases h1 : Lib.indexByte s (UInt8.ofNat c) = -1
    · rw [if_pos h1, h1]
    · rw [if_neg h1]; simp
  · cases h
noncomputable def orcT (f : FuncId) : Option GoX.CF := cond (Nat.beq f 66) (some (orcPF idxF)) none
theorem orcT_good {K : GoX.Tab} (hK : K.P = Tryz.prog) : ∀ f c, orcT f = some c → c.Good K true f := fun f c h => by
  unfold orcT at h
  cases hf : Nat.beq f 66 with
  | false => rw [hf] at h; cases h
  | true =>
    rw [hf] at h
    obtain rfl := GoX.beq_eq' hf
    cases h
    exact orcP_good (idx_orc hK)
end Go.Proofs.YtjgddkbpfpgaoacGreatDoor
