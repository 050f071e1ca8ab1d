/-
  AN AUTOMATON OF NO STEPS, and whether a product is too large: by contract.
-/
import Derived.Test.YtgojieabeaalcaaCalms
namespace Go.Proofs.Ytgojieabeaalcaa
open Go.ChangeShapes Go.WideShapes Go.ChangeAt Go.RowKit

theorem pbox3 {x : World} {b : Nat} {c0 c1 c2 : Value} {t : TypeId} (h : x.heap[b]? = some (.cells #[c0, c1, c2] t)) :
    (x.cell? ⟨b, 0, none⟩ = some c0 ∧ x.cell? ⟨b, 1, none⟩ = some c1 ∧ x.cell? ⟨b, 2, none⟩ = some c2) ∧ ∀ j, x.frozen? ⟨b, j, none⟩ = false := by
  simp [World.cell?, World.frozen?, h]
theorem pnew (w : World) (o : Obj) : (w.alloc o).heap[w.heap.size]? = some o := by
  show (w.heap.push _)[w.heap.size]? = _
  simp
theorem row_one {w : World} {a : Option Addr} {xs : List Value} (h : RowAt w a xs) {k : Nat} {v : Value} (hv : xs[k]? = some v) : ∃ b o, a = some ⟨b, o, none⟩ ∧ w.cell? ⟨b, o + k, none⟩ = some v := by
  rcases h with rfl | ⟨b, o, rfl, _, hc⟩
  · simp at hv
  · exact ⟨b, o, rfl, hc k v hv⟩
set_option maxHeartbeats 3200000 in
set_option maxRecDepth 100000 in
theorem egood_c (m : Nat) (h1 : 1 ≤ m) (h2 : m ≤ 1000) (na aa : Option Addr) (nc ac : Nat) (vs : List Value) (hlen : vs.length = m) (hvs : ∀ v ∈ vs, ∃ p c, v = .slice p 0 c) (w : World) (hR : RowAt w na vs) :
    Calls Try.prog 43 #[.agg #[.slice none 0 0, .slice na m nc, .slice aa m ac]] w fun e w' => e = .returned (.bool true) ∧ Below w.heap.size w w' := by
  have hb := hidden (pnew w (.cells #[.slice none 0 0, .slice na m nc, .slice aa m ac] 68))
  obtain ⟨⟨f0, f1, f2⟩, -⟩ := pbox3 hb.out
  replace hR := hidden (hR.below ((Below.refl _ _).alloc (Nat.le_refl _) (.cells #[.slice none 0 0, .slice na m nc, .slice aa m ac] 68)))
  have hB : Hid (Below w.heap.size w (w.alloc (.cells #[.slice none 0 0, .slice na m nc, .slice aa m ac] 68))) := (Below.refl _ _).alloc (Nat.le_refl _) _
  replace hvs := hidden hvs
  replace hlen := hidden hlen
  have k1 : ((m : Int) < 1) = False := by simp; omega
  have k2 : ((m : Int) > 1000) = False := by simp; omega
  go_enter Try.func43, Try.ntmps43
  go_wp2
  go_loop [4] (fun i => i = .int .i64 1) (fun _ => 0)
  case atStart => rfl
  case round =>
    subst hrel
    go_wp2
    go_loop [54] (fun i => ∃ k : Nat, k ≤ m ∧ i = .int .i64 k) (fun i => m - (intOf i).toNat)
    case atStart => exact ⟨0, Nat.zero_le _, rfl⟩
    case round =>
      obtain ⟨k, hk, rfl⟩ := hrel
      by_cases hlt : k < m
      · obtain ⟨v, hv⟩ : ∃ v, vs[k]? = some v := ⟨vs[k]'(by rw [hlen.out]; exact hlt), List.getElem?_eq_getElem _⟩
        obtain ⟨p, c, rfl⟩ := hvs.out v (List.mem_of_getElem? hv)
        obtain ⟨b, o, rfl, hc⟩ := row_one hR.out hv
        have hj : (k : Int) < (m : Int) := by omega
        clear hv
        go_wp2
        go_loop [66] (fun i => i = .int .i64 0) (fun _ => 0)
        case atStart => rfl
        case round =>
          subst hrel
          go_wp2
          go_round
          case rel => exact ⟨k + 1, by omega, by go_num⟩
          case measure => simp [intOf]; omega
      · obtain rfl : k = m := by omega
        go_wp2
        go_ret
        exact ⟨rfl, hB.out⟩
set_option maxRecDepth 100000 in
theorem nodes_c (b o k : Nat) (w : World) (h : w.cell? ⟨b, o, none⟩ = some (.int .i64 k)) :
    Calls Try.prog 14 #[.pointer (some ⟨b, o, none⟩)] w fun e w' => e = .returned (.int .i64 k) ∧ w' = w := by
  go_enter Try.func14, Try.ntmps14
  go_wp2
  go_ret
  exact ⟨rfl, rfl⟩
end Go.Proofs.Ytgojieabeaalcaa
