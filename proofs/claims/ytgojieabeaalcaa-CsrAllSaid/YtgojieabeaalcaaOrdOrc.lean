/-
  THE PROGRAM's ORDER OF KEYS, as a run takes it by its contract.
-/
import Derived.Test.YtgojieabeaalcaaOrder
import Derived.Test.YtgojieabeaalcaaXCodeH
import Derived.RangeFuncStops
namespace Go.Proofs.Ytgojieabeaalcaa
open Go.ChangeShapes Go.WideShapes Go.ChangeAt Go.RowKit

noncomputable def keysK : List GoX.AV → (List Nat → Bool) → Bool
  | [], k => k []
  | .int .u64 (.ofNat x) :: l, k => cond (Nat.blt x 18446744073709551616) (GoX.forceN x fun x => keysK l fun ks => k (x :: ks)) false
  | _, _ => false
theorem keysK_ok : ∀ {cs : List GoX.AV} {k : List Nat → Bool}, keysK cs k = true → ∃ ks, cs = ks.map (fun (x : Nat) => GoX.AV.int .u64 (x : Int)) ∧ (∀ x ∈ ks, x < 18446744073709551616) ∧ k ks = true
  | [], k, h => ⟨[], rfl, by simp, h⟩
  | .int .u64 (.ofNat x) :: l, k, h => by
    obtain ⟨h1, h2⟩ := GoX.cond_true_of (show cond (Nat.blt x 18446744073709551616) (GoX.forceN x fun x => keysK l fun ks => k (x :: ks)) false = true from h)
    rw [GoX.forceN_eq] at h2
    obtain ⟨ks, rfl, h3, h4⟩ := keysK_ok h2
    refine ⟨x :: ks, rfl, fun y hy => ?_, h4⟩
    rcases List.mem_cons.1 hy with rfl | hy
    · exact GoX.blt_lt h1
    · exact h3 y hy
def insP (x : Nat × Nat) : List (Nat × Nat) → List (Nat × Nat)
  | [] => [x]
  | y :: l => cond (Nat.ble y.1 x.1) (y :: insP x l) (x :: y :: l)
def sortP : Nat → List Nat → List (Nat × Nat) → List (Nat × Nat)
  | _, [], acc => acc
  | i, k :: ks, acc => sortP (i + 1) ks (insP (k, i) acc)
def ltB (K : Nat → Nat) (p q : Nat) : Bool := Nat.blt (K p) (K q) || (Nat.beq (K p) (K q) && Nat.blt p q)
def pwB (K : Nat → Nat) : List Nat → Bool
  | [] => true
  | p :: l => l.all (ltB K p) && pwB K l
def chk (K : Nat → Nat) (n : Nat) (ps : List Nat) : Bool := pwB K ps && (ps.all (fun p => Nat.blt p n) && (List.range n).all (fun p => ps.any (Nat.beq p)))
theorem pwB_ok {K : Nat → Nat} : ∀ {l : List Nat}, pwB K l = true → l.Pairwise (KeyLt K)
  | [], _ => .nil
  | p :: l, h => by
    simp only [pwB, Bool.and_eq_true, List.all_eq_true] at h
    refine .cons (fun q hq => ?_) (pwB_ok h.2)
    have := h.1 q hq
    simp only [ltB, Bool.or_eq_true, Bool.and_eq_true] at this
    rcases this with h1 | ⟨h1, h2⟩
    · exact .inl (GoX.blt_lt h1)
    · exact .inr ⟨GoX.beq_eq' h1, GoX.blt_lt h2⟩
theorem chk_ok {K : Nat → Nat} {n : Nat} {ps : List Nat} (h : chk K n ps = true) : Ordered K n ps := by
  simp only [chk, Bool.and_eq_true, List.all_eq_true, List.any_eq_true] at h
  obtain ⟨h1, h2, h3⟩ := h
  refine ⟨pwB_ok h1, fun p => ⟨fun hp => GoX.blt_lt (h2 p hp), fun hp => ?_⟩⟩
  obtain ⟨q, hq, he⟩ := h3 p (List.mem_range.2 hp)
  rw [GoX.beq_eq' he]; exact hq
noncomputable def outK : List Nat → (List GoX.AV → Bool) → Bool
  | [], k => k []
  | p :: l, k => GoX.forceN p fun p => outK l fun o => k (.int .i64 (.ofNat p) :: o)
theorem outK_eq : ∀ (l : List Nat) (k : List GoX.AV → Bool), outK l k = k (l.map fun p => GoX.AV.int .i64 (.ofNat p))
  | [], _ => rfl
  | p :: l, k => by
    show GoX.forceN p (fun p => outK l fun o => k (.int .i64 (.ofNat p) :: o)) = _
    rw [GoX.forceN_eq, outK_eq l]; rfl
noncomputable def ordK (cs : List GoX.AV) (k : List GoX.AV → Bool) : Bool := keysK cs fun ks => cond (Nat.blt 0 ks.length && (Nat.ble ks.length 1000 && chk (fun p => ks.getD p 0) ks.length ((sortP 0 ks []).map (·.2)))) (outK ((sortP 0 ks []).map (·.2)) k) false
theorem concs_u64 (φ : GoX.Phi) : ∀ ks : List Nat, GoX.concs φ (ks.map fun (x : Nat) => GoX.AV.int .u64 (x : Int)) = some (ks.map fun (x : Nat) => Value.int .u64 (x : Int))
  | [] => rfl
  | _ :: ks => GoX.concs_cons_mk rfl (concs_u64 φ ks)
theorem concs_i64 (φ : GoX.Phi) : ∀ ks : List Nat, GoX.concs φ (ks.map fun (x : Nat) => GoX.AV.int .i64 (.ofNat x)) = some (natsV ks)
  | [] => rfl
  | _ :: ks => GoX.concs_cons_mk rfl (concs_i64 φ ks)
theorem ord_orc {K : GoX.Tab} (hK : K.P = Try.prog) : GoX.Orc K 51 3 ordK := by
  refine ⟨⟨fun xs w => by rw [hK]; exact enters_of Try.func51 (by kernel_rfl) rfl xs w⟩, fun cs k h => ?_⟩
  obtain ⟨ks, rfl, hlt, h⟩ := keysK_ok h
  obtain ⟨hc, h⟩ := GoX.cond_true_of h
  simp only [Bool.and_eq_true] at hc
  obtain ⟨h0, h1, h2⟩ := hc
  have h0 := GoX.blt_lt h0
  have h1 := GoX.ble_le h1
  have h2 := chk_ok h2
  rw [outK_eq] at h
  generalize (sortP 0 ks []).map (·.2) = ps at *
  refine ⟨_, h, fun φ vs b off cap w hvs hcell hb => ⟨_, concs_i64 φ ps, ?_⟩⟩
  rw [concs_u64] at hvs
  obtain rfl := Option.some.inj hvs
  rw [hK]
  have e : (ks.map fun (x : Nat) => Value.int .u64 (x : Int)) = (ks.map Int.ofNat).map (Value.int .u64) := by simp
  have hH : Holds w (.slice (some ⟨b, off, none⟩) (ks.map fun (x : Nat) => Value.int .u64 (x : Int)).length cap) ((ks.map Int.ofNat).map (Value.int .u64)) := by
    rw [← e]
    exact ⟨_, cap, rfl, .inr ⟨b, off, rfl, hb, hcell⟩⟩
  refine (order_c _ (ks.map Int.ofNat) w hH (by simpa using h1) (fun z hz => ?_)).mono ?_
  · obtain ⟨x, hx, rfl⟩ := List.mem_map.1 hz
    have := hlt x hx
    simp [Lit.wf, IntKind.min, IntKind.max, IntKind.signed, IntKind.bits]
    omega
  · rintro e' w' ⟨v', l, rfl, hord, hown, hB⟩
    have hll : (ks.map Int.ofNat).length = ks.length := by simp
    rw [hll] at hord hown
    have hkey : Ordered (fun p => ks.getD p 0) ks.length l := ordered_congr hord fun p hp => by
      simp [keyOf, List.getD, hp]
    obtain rfl := hkey.unique h2
    have hlen := h2.len
    obtain ⟨hl, hr⟩ := hown
    rcases hr with ⟨_, hn⟩ | ⟨g, cp, cur, rfl, hg, hcur, hle, hmx, hsz, htk⟩
    · omega
    · refine ⟨g, cp, cur, by simp [hlen], hg, hcur, by simp [hlen]; exact hle, by omega, ?_, hB⟩
      simp only [List.length_map, hlen]
      rw [Nat.mul_one] at htk
      exact htk
noncomputable def orcT (f : FuncId) : Option GoX.CF := cond (Nat.beq f 51) (some (GoX.orcF 3 ordK)) none
theorem orcT_good {K : GoX.Tab} (hK : K.P = Try.prog) : ∀ f c, orcT f = some c → c.Good K true f := fun f c h => by
  unfold orcT at h
  cases hf : Nat.beq f 51 with
  | false => rw [hf] at h; cases h
  | true =>
    rw [hf] at h
    obtain rfl := GoX.beq_eq' hf
    cases h
    exact GoX.orc_good (ord_orc hK)
end Go.Proofs.Ytgojieabeaalcaa
