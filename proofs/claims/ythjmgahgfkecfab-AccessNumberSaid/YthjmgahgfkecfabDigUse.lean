/-
  DIGITS AND NUMBERS, as a law uses them.
-/
import Derived.Test.YthjmgahgfkecfabDigits
import Derived.Test.YthjmgahgfkecfabXCodeG
namespace Go.Proofs.Ythjmgahgfkecfab
open Go.ChangeShapes Go.WideShapes Go.ChangeAt Go.RowKit

theorem fewN_c (v : Value) (ss : List Int) (w : World) (hv : Holds w v (ss.map (Value.int .u64))) (hs : ss.length ≤ 5) :
    Calls Try.prog 4 #[v, .int .i64 5] w fun e w' => ∃ v', e = .returned v' ∧ Sl w' v' (ss.map (Value.int .u64)) ∧ Below w.heap.size w w' :=
  (fewu_c v ss 5 w hv (by omega) (by omega)).mono fun _ _ ⟨v', he, ho, hB⟩ => ⟨v', he, by have h := sl_of_owns ho; rwa [List.take_of_length_le hs] at h, hB⟩
theorem few5_c (v : Value) (zs : List Int) (w : World) (hv : Holds w v (zs.map (Value.int .u64))) (hz : zs.length ≤ 9223372036854775807) :
    Calls Try.prog 4 #[v, .int .i64 5] w fun e w' => ∃ a c, e = .returned (.slice a (zs.take 5).length c) ∧ Holds w' (.slice a (zs.take 5).length c) ((zs.take 5).map (Value.int .u64)) ∧ Below w.heap.size w w' := by
  refine (fewu_c v zs 5 w hv hz (by omega)).mono ?_
  rintro e w' ⟨v', rfl, ho, hB⟩
  have h := holds_of_owns ho
  obtain ⟨a, c, rfl, -⟩ := holds_of_owns ho
  rw [List.length_map] at *
  exact ⟨a, c, rfl, h, hB⟩
theorem digits_bad {k : Int} {v : Value} {ss : List Int} (w : World) (hv : Sl w v (ss.map (Value.int .u64))) (hz : ss.length ≤ 5) (hb : ∀ z ∈ ss, 0 ≤ z ∧ z ≤ 18446744073709551615) (hk0 : 0 ≤ k) (h : prodS ss = 4611686018427387904 ∨ prodS ss ≤ k) :
    Calls Try.prog 8 #[.int .u64 k, v] w fun e w' => e = .returned (.tuple #[.slice none 0 0, .bool false]) ∧ Below w.heap.size w w' := by
  refine (digits_c k v ss w hv (by omega) hb hk0).mono ?_
  rintro e w' ⟨v', ok, rfl, hB, ⟨rfl, rfl, -⟩ | ⟨rfl, h1, h2, -⟩⟩
  · exact ⟨rfl, hB⟩
  · omega
theorem digits_good {k : Int} {v : Value} {ss : List Int} (w : World) (hv : Sl w v (ss.map (Value.int .u64))) (hz : ss.length ≤ 5) (hb : ∀ z ∈ ss, 0 ≤ z ∧ z ≤ 18446744073709551615) (hk0 : 0 ≤ k) (h : k < prodS ss) (h' : prodS ss < 4611686018427387904) :
    Calls Try.prog 8 #[.int .u64 k, v] w fun e w' => ∃ a c, e = .returned (.tuple #[.slice a ss.length c, .bool true]) ∧ Holds w' (.slice a ss.length c) ((digs k ss).map (Value.int .u64)) ∧ Below w.heap.size w w' := by
  refine (digits_c k v ss w hv (by omega) hb hk0).mono ?_
  rintro e w' ⟨v', ok, rfl, hB, ⟨rfl, rfl, h1⟩ | ⟨rfl, h1, h2, ho⟩⟩
  · omega
  · obtain ⟨a, c, rfl, -⟩ := holds_of_owns ho
    have hh := holds_of_owns ho
    rw [List.length_map, digs_len] at *
    exact ⟨a, c, rfl, hh, hB⟩
theorem number_digs {k : Int} {va vb : Value} {ss : List Int} (w : World) (hva : Holds w va ((digs k ss).map (Value.int .u64))) (hvb : Holds w vb (ss.map (Value.int .u64))) (hz : ss.length ≤ 5) (hb : ∀ z ∈ ss, 0 ≤ z ∧ z ≤ 18446744073709551615)
    (hk0 : 0 ≤ k) (h : k < prodS ss) (h' : prodS ss < 4611686018427387904) :
    Calls Try.prog 5 #[va, vb] w fun e w' => e = .returned (.tuple #[.int .u64 k, .bool true]) ∧ w' = w := by
  have hl := digs_len k ss
  obtain ⟨hone, he⟩ := prodS_small (zs := ss) (fun z hz => (hb z hz).1) (by omega) h'
  have e : numV (digs k ss) ss = .tuple #[.int .u64 k, .bool true] := by
    rw [numV_good hl (by omega) (fits_digs hone), num_digs hone hk0 (by omega) (by omega) _ (Nat.le_refl _), quo_end]
  have h := number_c va vb (digs k ss) ss w hva hvb (by omega) (by omega) hb
  rwa [e] at h

theorem Holds.cells {w : World} {a : Option Addr} {n c : Nat} {xs : List Value} (h : Holds w (.slice a n c) xs) (hne : xs ≠ []) :
    ∃ b off, a = some ⟨b, off, none⟩ ∧ b < w.heap.size ∧ ∀ j u, xs[j]? = some u → w.cell? ⟨b, off + j, none⟩ = some u := by
  obtain ⟨a', c', e, hr⟩ := h
  simp only [Value.slice.injEq] at e
  obtain ⟨rfl, -, -⟩ := e
  rcases hr with h0 | h0
  · exact absurd h0 hne
  · exact h0
theorem calm_trans' {w w1 w2 : World} (h : Below w.heap.size w w1) (hc : GoX.Calm w1 w2) : GoX.Calm w w2 := (GoX.Calm.of_below h).trans hc

end Go.Proofs.Ythjmgahgfkecfab
