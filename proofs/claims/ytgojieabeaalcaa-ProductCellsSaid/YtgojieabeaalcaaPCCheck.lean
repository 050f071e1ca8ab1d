/-
  WHETHER A PRODUCT IS TOO LARGE: by contract.
-/
import Derived.Test.YtgojieabeaalcaaPCGood
namespace Go.Proofs.Ytgojieabeaalcaa
open Go.ChangeShapes Go.WideShapes Go.ChangeAt Go.RowKit

def wantC (n : Nat) (h : Int) : Int := if h < 0 then 1 else if 0 < n ∧ (1000000 / n : Nat) ≤ h then 11 else 0
set_option maxHeartbeats 3200000 in
set_option maxRecDepth 100000 in
theorem check_c (k m : Nat) (hk : k < 20) (h1 : 1 ≤ m) (h2 : m ≤ 1000) (na aa : Option Addr) (nc ac : Nat) (vs : List Value) (hlen : vs.length = m) (hvs : ∀ v ∈ vs, ∃ p c, v = .slice p 0 c) (b o : Nat) (h : Int) (w : World) (hR : RowAt w na vs) (hbl : b < w.heap.size) (hc : w.cell? ⟨b, o, none⟩ = some (.int .i64 k)) :
    Calls Try.prog 28 #[.pointer (some ⟨b, o, none⟩), .agg #[.slice none 0 0, .slice na m nc, .slice aa m ac], .int .i64 h] w fun e w' => e = .returned (.int .i64 (wantC (k * m) h)) ∧ Below w.heap.size w w' := by
  have hb := hidden (pnew w (.cells #[.slice none 0 0, .slice na m nc, .slice aa m ac] 68))
  obtain ⟨⟨f0, f1, f2⟩, -⟩ := pbox3 hb.out
  have hB0 : Hid (Below w.heap.size w (w.alloc (.cells #[.slice none 0 0, .slice na m nc, .slice aa m ac] 68))) := (Below.refl _ _).alloc (Nat.le_refl _) _
  have hR1 := hidden (hR.below hB0.out)
  have hc1 := hidden ((hB0.out.cell (p := ⟨b, o, none⟩) hbl).trans hc)
  have hg := egood_c m h1 h2 na aa nc ac vs hlen hvs _ hR1.out
  by_cases hneg : h < 0
  · have e : Hid (wantC (k * m) h = 1) := by unfold wantC; exact if_pos hneg
    clear hR hc hg
    go_enter Try.func28, Try.ntmps28
    go_wp2
    go_ret
    exact ⟨by rw [e.out]; rfl, hB0.out⟩
  · have hle : k * m ≤ 19 * 1000 := Nat.mul_le_mul (by omega) h2
    have hn : (k : Int) * (m : Int) = ((k * m : Nat) : Int) := by rw [Int.natCast_mul]
    obtain ⟨n, hn'⟩ : ∃ n, Hid (k * m = n) := ⟨_, rfl⟩
    rw [hn'.out] at hn hle ⊢
    clear hR hc
    go_enter Try.func28, Try.ntmps28
    go_wp2_with fail
    refine hg.mono ?_
    rintro e w1 ⟨rfl, hB1⟩
    have hc2 := (hB1.cell (p := ⟨b, o, none⟩) (by have := hB0.out.size; show b < _; omega)).trans hc1.out
    have hb1 := hidden ((hB1.block w.heap.size (Array.getElem?_eq_some_iff.1 hb.out).1).trans hb.out)
    obtain ⟨⟨g0, g1, g2⟩, -⟩ := pbox3 hb1.out
    have hcall := fun j => nodes_c b o k (w1.drewN j) hc2
    have hB2 := hidden (hB0.out.trans (hB1.mono hB0.out.size))
    clear hB1 hg hb f0 f1 f2 hR1 hc1 hB0
    have hq : (1000000 : Int).tdiv (n : Int) = ((1000000 / n : Nat) : Int) := by
      rw [show (1000000 : Int) = ((1000000 : Nat) : Int) from rfl, ← Int.ofNat_tdiv]
    have hw : Hid (wantC n h = if 0 < n ∧ (1000000 / n : Nat) ≤ h then 11 else 0) := by
      unfold wantC
      exact if_neg (by omega)
    have hql : 1000000 / n ≤ 1000000 := Nat.div_le_self _ _
    generalize 1000000 / n = q at *
    by_cases hz : 0 < n
    · have hzi : (n : Int) ≠ 0 := by omega
      by_cases hge : (q : Int) ≤ h
      · rw [if_pos ⟨hz, hge⟩] at hw
        go_wp2
        go_quiet (refine Calls.quiet_of_same (hcall _))
        go_wp2
        go_ret
        exact ⟨by rw [hw.out]; rfl, below_drewN hB2.out _⟩
      · rw [if_neg (fun h => hge h.2)] at hw
        go_wp2
        go_quiet (refine Calls.quiet_of_same (hcall _))
        go_wp2
        go_ret
        exact ⟨by rw [hw.out]; rfl, below_drewN hB2.out _⟩
    · rw [if_neg (fun h => hz h.1)] at hw
      obtain rfl : n = 0 := by omega
      go_wp2
      go_quiet (refine Calls.quiet_of_same (hcall _))
      go_wp2
      go_ret
      exact ⟨by rw [hw.out]; rfl, below_drewN hB2.out _⟩
end Go.Proofs.Ytgojieabeaalcaa
