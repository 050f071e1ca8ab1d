/-
  WHICH VALUE ANY TEXT BEGINS WITH: the law's own walk.
-/
import Derived.Test.YtlpglldfchfaaaaRead4
import Derived.Test.YtlpglldfchfaaaaRRead2
import Derived.Test.YtlpglldfchfaaaaCut
import Derived.Test.YtlpglldfchfaaaaXCodeG
namespace Go.Proofs.Ytlpglldfchfaaaa
open Go.ChangeShapes Go.WideShapes Go.ChangeAt Go.RowKit

theorem read_size (s : ByteArray) (h : (readS s).e = 0) : (tx (readS s).t).size ≤ 1000 := by
  rw [tx_size]
  have ht := text_good s s.size 1 [] (fun u hu => by cases hu) (by simp)
  have h1 := num_good s true s.size 1 0 (by omega)
  have h2 := num_good s false s.size 0 0 (by omega)
  rcases read_start s with ⟨_, e⟩ | ⟨_, e⟩ | ⟨_, _, neg, _, e⟩ | ⟨_, e⟩ <;> rw [e] at h ⊢
  · cases h
  · have := (ht h).2.2.2; omega
  · cases neg
    · have := (h2 h).2.2.2
      simp only [Bool.false_eq_true, if_false]
      rw [this]; simp
    · have := (h1 h).2.2.2
      simp only [if_true]
      rw [this]; simp
  · cases h
set_option maxHeartbeats 6400000 in
theorem law_c (s : ByteArray) (w : World)
    (hlv : ∀ x, Calls Try.prog 8 #[] x fun e w' => e = .returned (.bool true) ∧ GoX.Calm x w') :
    Calls Try.prog 3 #[.string s] w fun e w' => e = .returned (.bool true) ∧ GoX.Calm w w' := by
  have hc := fun w => cut_c s 150 w (by omega)
  have hsz := cutB_size s 150
  generalize cutB s 150 = c at *
  have hr := fun w => read_c c w (by omega)
  have hrr := fun w => rread_c c w (by omega)
  have hgood := hid0 (read_good c)
  have hsize := hid0 (read_size c)
  generalize readS c = x at *
  obtain ⟨k, n, t, m, er⟩ := x
  simp only [RR.v] at hr hrr
  have hg : Hid (er = 0 → ∀ w, Calls Try.prog 7 #[.agg #[.int .i64 k, .int .i64 n, .string (tx t)]] w fun e w' => e = .returned (.bool true) ∧ Below w.heap.size w w') := fun he w => by
    have := vgood_c k n (tx t) w (hsize.out he)
    rwa [show goodV k n (tx t) = true from hgood.out he] at this
  replace hlv := hid0 hlv
  generalize tx t = tt at *
  clear hgood hsize hsz
  have main : ∀ b : Bool, (er == 0) = b → Calls Try.prog 3 #[.string s] w fun e w' => e = .returned (.bool true) ∧ GoX.Calm w w' := by
    intro b hb
    cases b with
    | false =>
      have hb2 : (er != 0) = !(er == 0) := rfl
      rw [hb] at hb2
      go_enter Try.func3, Try.ntmps3
      go_wp2_with fail
      refine (hc _).mono ?_
      rintro e w ⟨rfl, rfl⟩
      go_wp2_with fail
      refine (hr _).mono ?_
      rintro e w1 ⟨rfl, hB1⟩
      clear hr hc
      go_wp2_with fail
      have hA1 := hid0 (heap_alloc_new w1 (.cells #[.int .i64 k, .int .i64 n, .string tt] 24))
      have hsA : Hid ((w1.alloc (.cells #[.int .i64 k, .int .i64 n, .string tt] 24)).heap.size = w1.heap.size + 1) := by show (w1.heap.push _).size = _; simp
      refine (hrr _).mono ?_
      rintro e w2 ⟨rfl, hB2⟩
      have hA2 := (hB2.block _ (by rw [hsA.out]; omega)).trans hA1.out
      obtain ⟨⟨g0, g1, g2⟩, -⟩ := box_facts hA2
      have hlt : w1.heap.size < w2.heap.size := by have := hB2.size; rw [hsA.out] at this; omega
      have hBw : Hid (Below w.heap.size w (w2.alloc (.cells #[.int .i64 k, .int .i64 n, .string tt] 24))) := by
        have h1 := hB1.alloc hB1.size (.cells #[.int .i64 k, .int .i64 n, .string tt] 24)
        have h2 := h1.trans (hB2.mono h1.size)
        exact h2.alloc h2.size _
      clear hA1 hsA hA2 hB1 hB2 hrr
      go_wp2_with fail
      refine (hlv.out _).mono ?_
      rintro e w7 ⟨rfl, hC⟩
      have hfin : Hid (GoX.Calm w w7) := (GoX.Calm.of_below hBw.out).trans hC
      clear hC hBw
      go_wp2
      go_ret
      exact ⟨rfl, hfin.out⟩
    | true =>
      have hb2 : (er != 0) = !(er == 0) := rfl
      rw [hb] at hb2
      go_enter Try.func3, Try.ntmps3
      go_wp2_with fail
      refine (hc _).mono ?_
      rintro e w ⟨rfl, rfl⟩
      go_wp2_with fail
      refine (hr _).mono ?_
      rintro e w1 ⟨rfl, hB1⟩
      clear hr hc
      go_wp2_with fail
      have hA1 := hid0 (heap_alloc_new w1 (.cells #[.int .i64 k, .int .i64 n, .string tt] 24))
      have hsA : Hid ((w1.alloc (.cells #[.int .i64 k, .int .i64 n, .string tt] 24)).heap.size = w1.heap.size + 1) := by show (w1.heap.push _).size = _; simp
      refine (hrr _).mono ?_
      rintro e w2 ⟨rfl, hB2⟩
      have hA2 := (hB2.block _ (by rw [hsA.out]; omega)).trans hA1.out
      obtain ⟨⟨g0, g1, g2⟩, -⟩ := box_facts hA2
      have hlt : w1.heap.size < w2.heap.size := by have := hB2.size; rw [hsA.out] at this; omega
      have hBw : Hid (Below w.heap.size w (w2.alloc (.cells #[.int .i64 k, .int .i64 n, .string tt] 24))) := by
        have h1 := hB1.alloc hB1.size (.cells #[.int .i64 k, .int .i64 n, .string tt] 24)
        have h2 := h1.trans (hB2.mono h1.size)
        exact h2.alloc h2.size _
      clear hA1 hsA hA2 hB1 hB2 hrr
      go_wp2_with fail
      refine (hg.out (eq_of_beq hb) _).mono ?_
      rintro e w5 ⟨rfl, hB5⟩
      replace hBw : Hid (Below w.heap.size w w5) := hBw.out.trans (hB5.mono hBw.out.size)
      clear hB5 g0 g1 g2
      go_wp2_with fail
      refine (hlv.out _).mono ?_
      rintro e w7 ⟨rfl, hC⟩
      have hfin : Hid (GoX.Calm w w7) := (GoX.Calm.of_below hBw.out).trans hC
      clear hC hBw
      go_wp2
      go_ret
      exact ⟨rfl, hfin.out⟩
  exact main _ rfl
end Go.Proofs.Ytlpglldfchfaaaa
