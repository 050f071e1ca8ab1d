/-
  THE NUMBERS OF A SET, ONE BY ONE, AND AS A LIST: by contract.
-/
import Derived.Test.YtfjhiaafabmpbagDoorSetNew
import Derived.Shelf.Spec.TrailingZeros
import Derived.Laws.Bits128
namespace Go.Proofs.YtfjhiaafabmpbagDoor
open Go.ChangeShapes Go.WideShapes Go.ChangeAt Go.RowKit

/-! ### The lowest bit -/
theorem low_spec (x : Nat) (h0 : x ≠ 0) (hx : x < 18446744073709551616) : Lib.ctz 64 x < 64 ∧ x.testBit (Lib.ctz 64 x) = true ∧ (∀ j, j < Lib.ctz 64 x → x.testBit j = false) ∧
    (∀ j, (x &&& (x - 1)).testBit j = (x.testBit j && !(j == Lib.ctz 64 x))) := by
  obtain ⟨m, hm, hk⟩ := Lib.ctzFrom_spec 64 x (by omega) hx
  have hc : Lib.ctz 64 x = Lib.ctzFrom 64 x := by simp [Lib.ctz, h0]
  rw [hc]
  generalize Lib.ctzFrom 64 x = k at *
  clear hc
  have hb : ∀ j, x.testBit j = if j < k then false else (2 * m + 1).testBit (j - k) := fun j => by
    rw [hm, show 2 ^ k * (2 * m + 1) = 2 ^ k * (2 * m + 1) + 0 by omega, Nat.testBit_two_pow_mul_add _ (Nat.two_pow_pos k)]
    simp
  have hp := Nat.two_pow_pos k
  have hs : ∀ j, (x - 1).testBit j = if j < k then (2 ^ k - 1).testBit j else (2 * m).testBit (j - k) := fun j => by
    rw [hm, show 2 ^ k * (2 * m + 1) - 1 = 2 ^ k * (2 * m) + (2 ^ k - 1) by rw [Nat.mul_add]; omega, Nat.testBit_two_pow_mul_add _ (by omega)]
  refine ⟨hk, ?_, fun j hj => ?_, fun j => ?_⟩
  · rw [hb, if_neg (by omega)]; simp
  · rw [hb, if_pos hj]
  · rw [Nat.testBit_and, hb, hs]
    by_cases h1 : j < k
    · simp [h1]
    · rw [if_neg h1, if_neg h1]
      by_cases h2 : j = k
      · subst h2; simp
      · have h3 : (j == k) = false := by simpa using h2
        obtain ⟨d, hd⟩ : ∃ d, j - k = d + 1 := ⟨j - k - 1, by omega⟩
        rw [hd, h3]
        have e1 : (2 * m + 1).testBit (d + 1) = m.testBit d := by rw [Nat.testBit_succ]; congr 1; omega
        have e2 : (2 * m).testBit (d + 1) = m.testBit d := by rw [Nat.testBit_succ]; congr 1; omega
        rw [e1, e2]; simp
/-- The bits of a word, rising. -/
def bitsL (x : Nat) : List Nat := (List.range 64).filter (x.testBit ·)
theorem filter_least (p q : Nat → Bool) (n k : Nat) (hk : k < n) (h1 : p k = true) (h2 : ∀ j, j < k → p j = false) (h3 : ∀ j, q j = (p j && !(j == k))) : (List.range n).filter p = k :: (List.range n).filter q := by
  have hr : List.range n = List.range k ++ k :: (List.range' (k + 1) (n - k - 1)) := by
    rw [List.range_eq_range', List.range_eq_range']
    rw [show n = k + (1 + (n - k - 1)) by omega, ← List.range'_append_1, Nat.zero_add, ← List.range'_append_1 (m := 1)]
    simp
  rw [hr, List.filter_append, List.filter_append]
  have a : (List.range k).filter p = [] := List.filter_eq_nil_iff.2 fun j hj => by simp [h2 j (List.mem_range.1 hj)]
  have b : (List.range k).filter q = [] := List.filter_eq_nil_iff.2 fun j hj => by simp [h3, h2 j (List.mem_range.1 hj)]
  rw [a, b, List.filter_cons, List.filter_cons, h1, h3 k]
  simp only [List.nil_append, if_true, beq_self_eq_true, Bool.not_true, Bool.and_false, Bool.false_eq_true, if_false]
  congr 1
  apply List.filter_congr
  intro j hj
  rw [h3]
  have : (j == k) = false := by
    simp only [List.mem_range'_1] at hj
    simp; omega
  simp [this]
theorem bitsL_cons (x : Nat) (h0 : x ≠ 0) (hx : x < 18446744073709551616) : bitsL x = Lib.ctz 64 x :: bitsL (x &&& (x - 1)) := by
  obtain ⟨h1, h2, h3, h4⟩ := low_spec x h0 hx
  exact filter_least _ _ 64 _ h1 h2 h3 h4
theorem bitsL_zero : bitsL 0 = [] := by
  apply List.filter_eq_nil_iff.2
  intro j _
  simp
theorem bitsL_len (x : Nat) : (bitsL x).length ≤ 64 := by
  have := List.length_filter_le (x.testBit ·) (List.range 64)
  simpa [bitsL] using this

/-! ### math/bits -/
set_option maxHeartbeats 800000 in
theorem tz_core (x k idx : Nat) (w : World) (hx0 : ((x : Int) == 0) = false)
    (key : IntKind.u64.wrap (bits BinOp.and IntKind.u64 (x : Int) (IntKind.u64.wrap (-(x : Int))) * 285870213051353865) / 288230376151711744 = (idx : Int))
    (hi : idx < 64) (hk : k < 64) (hcell : w.cell? ⟨0, idx, none⟩ = some (.int .u8 k)) :
    Calls Tryd.prog 26 #[.int .u64 x] w fun e w' => e = .returned (.int .i64 k) ∧ w' = w := by
  go_enter Tryd.func26, Tryd.ntmps26
  go_wp2_with (simp only [key])
  go_ret
  exact ⟨rfl, rfl⟩
theorem tz_c (x : Nat) (w : World) (h0 : x ≠ 0) (hx : x < 18446744073709551616) (hT : TabAt 0 Lib.deBruijn64tab w) :
    Calls Tryd.prog 26 #[.int .u64 x] w fun e w' => e = .returned (.int .i64 (Lib.ctz 64 x : Nat)) ∧ w' = w := by
  obtain ⟨hlow, hk⟩ := Lib.lowest_bit 64 x h0 hx
  obtain ⟨hi, htab⟩ := Lib.deBruijn64_at _ hk
  have hcell := hT _ hi
  rw [htab] at hcell
  exact tz_core x _ _ w (by simp; omega) (tz64_key x _ hx h0 hlow) hi hk hcell
set_option maxHeartbeats 800000 in
theorem ones_c (x : Int) (w : World) : Calls Tryd.prog 27 #[.int .u64 x] w fun e w' => (∃ c : Nat, c < 128 ∧ e = .returned (.int .i64 c)) ∧ w' = w := by
  have h127 := i64_and127
  have hm : ∀ n : Int, ∃ c : Nat, c < 128 ∧ Ending.returned (.int .i64 (n % 128)) = Ending.returned (.int .i64 c) := fun n => ⟨(n % 128).toNat, by omega, by rw [Int.toNat_of_nonneg (by omega)]⟩
  have hm := hidden hm
  go_enter Tryd.func27, Tryd.ntmps27
  go_wp2
  go_ret
  exact ⟨hm.out _, rfl⟩
set_option maxHeartbeats 800000 in
theorem count_c (x : Int) (w : World) : Calls Tryd.prog 25 #[.int .u64 x] w fun e w' => (∃ c : Nat, c < 128 ∧ e = .returned (.int .i64 c)) ∧ w' = w := by
  have ho := ones_c x w
  go_enter Tryd.func25, Tryd.ntmps25
  go_wp2_with fail
  refine ho.mono ?_
  rintro e w' ⟨⟨c, hc, rfl⟩, rfl⟩
  clear ho
  go_wp2
  go_ret
  exact ⟨⟨c, hc, rfl⟩, rfl⟩
set_option maxHeartbeats 800000 in
theorem len_c (b : Nat) (g : Option Nat) (ws : List Nat) (w : World) (hf : Fit ws) (h : SetAt w b g ws) : Calls Tryd.prog 19 #[.pointer (some ⟨b, 0, none⟩)] w fun e w' =>
    (∃ c : Nat, c ≤ 131072 ∧ e = .returned (.int .i64 c)) ∧ w' = w := by
  have hw := wide_c b g ws w h
  have hc := fun x w => count_c x w
  have c0 := h.cell0
  have hlen := hf.short
  have h := hidden h
  go_enter Tryd.func19, Tryd.ntmps19
  go_wp2_with fail
  refine hw.mono ?_
  rintro e w' ⟨rfl, rfl⟩
  clear hw
  go_wp2_with fail
  go_loop [3, 7] (fun u i => ∃ j c : Nat, j ≤ ws.length ∧ c ≤ 128 * j ∧ u = .int .i64 c ∧ i = .int .i64 j) (fun _ i => ws.length - (intOf i).toNat)
  case atStart => exact ⟨0, 0, Nat.zero_le _, Nat.zero_le _, rfl, rfl⟩
  case round =>
    obtain ⟨j, c, hj, hcj, rfl, rfl⟩ := hrel
    by_cases hlt : j < ws.length
    · have hj1 : (j : Int) < (ws.length : Int) := by omega
      cases g with
      | none => have hn := h.out.empty rfl; subst hn; simp at hlt
      | some g =>
        simp only [rowV] at c0
        have c1 := h.out.cell j hlt
        generalize ws.getD j 0 = x at *
        go_wp2_with fail
        refine (hc _ _).mono ?_
        rintro e w' ⟨⟨d, hd, rfl⟩, rfl⟩
        have e4 : wrap64 ((c : Int) + (d : Int)) = ((c + d : Nat) : Int) := by rw [IntWalk.wrap64_in] <;> omega
        clear hc
        go_wp2
        go_round
        case rel => exact ⟨j + 1, c + d, by omega, by omega, rfl, by go_num⟩
        case measure => simp [intOf]; omega
    · have hj1 : ¬ (j : Int) < (ws.length : Int) := by omega
      clear hc
      go_wp2
      go_ret
      exact ⟨⟨c, by omega, rfl⟩, rfl⟩

/-- A variable that holds a row of its own. -/
structure Told (B : Nat) (w : World) (c : Nat) (xs : List Nat) : Prop where
  bc : B ≤ c
  cell : ∃ u, w.heap[c]? = some (.cells #[u] 22) ∧ w.ownsRow B 3 1 u xs.length (xs.map fun (x : Nat) => Value.int .i64 (x : Int))
theorem heap_set {x : World} {b : Nat} {cs : Array Value} {t : TypeId} (h : x.heap[b]? = some (.cells cs t)) (j : Nat) (v : Value) : (x.setCell ⟨b, j, none⟩ v).heap[b]? = some (.cells (cs.setIfInBounds j v) t) := by
  simp [World.setCell, Array.getElem?_modify, h]
theorem infoI : (Tryd.prog.info? 3).map (fun i => (i.zero, i.size, i.bytes)) = some (some (.int .i64 0), 1, 8) := by kernel_rfl
theorem owns_below {w w' : World} {base : Nat} {e : TypeId} {size : Nat} {v : Value} {n : Nat} {xs : List Value} (h : w.ownsRow base e size v n xs) (hB : Below w.heap.size w w') : w'.ownsRow base e size v n xs := by
  obtain ⟨hl, h⟩ := h
  refine ⟨hl, ?_⟩
  rcases h with h | ⟨g, cap, cur, e1, hg, hcell, r⟩
  · exact .inl h
  · exact .inr ⟨g, cap, cur, e1, hg, (hB.block g (Array.getElem?_eq_some_iff.1 hcell).1).trans hcell, r⟩
set_option maxHeartbeats 800000 in
theorem tell_c (B c z : Nat) (xs : List Nat) (w : World) (h : Told B w c xs) (hl : xs.length ≤ 100000) : Calls Tryd.prog 21 #[.int .i64 z, .pointer (some ⟨c, 0, none⟩)] w fun e w' =>
    e = .returned (.tuple #[]) ∧ Told B w' c (xs ++ [z]) ∧ Below B w w' := by
  obtain ⟨i0, hi, hz0, hz1, hz2⟩ := info_parts infoI
  obtain ⟨hBc, u, hu, hown⟩ := h
  have c0 : w.cell? ⟨c, 0, none⟩ = some u := by simp [World.cell?, hu]
  have hcl : c < w.heap.size := (Array.getElem?_eq_some_iff.1 hu).1
  have hne : u.ownBlock ≠ some c := fun e => by
    rcases hown.2 with ⟨rfl, _⟩ | ⟨g, cap, cur, rfl, _, hg, _⟩
    · simp [Value.ownBlock] at e
    · simp [Value.ownBlock] at e
      subst e
      rw [hu] at hg
      simp at hg
  go_enter Tryd.func21, Tryd.ntmps21
  go_wp2_with (at_builtin; refine wpList_append_own _ rfl _ _ 22 rfl B 3 i0 (.int .i64 0) 1 8 Tryd.underlying22 hi hz0 hz1 hz2 rfl (by decide) _ _ _ rfl (hown.alloc _) ⟨w.heap.size, 0, none⟩ 1 1 [.int .i64 z] rfl rfl (cell_one_new _ _ _) ?c2 ?c3 ?c4 ?c5 ?_)
  case c2 => intro u hu; simp at hu; subst hu; rfl
  case c3 => unfold maxLen; omega
  case c4 => omega
  case c5 => simp; omega
  intro v' w1 hown' hgrow _
  have hu1 : w1.heap[c]? = some (.cells #[u] 22) := (hgrow.block c (by simp; omega) (fun e => hne e.symm)).trans ((heap_alloc_old _ _ hcl).trans hu)
  have d0 : w1.cell? ⟨c, 0, none⟩ = some u := by simp [World.cell?, hu1]
  have d1 : w1.frozen? ⟨c, 0, none⟩ = false := by simp [World.frozen?, hu1]
  have hB : Below B w w1 := (((Below.refl B w).alloc (by omega) _)).grown hgrow (by simp; omega) (fun j hj => (hown.lt j hj).1)
  obtain ⟨g, cap, rfl⟩ : ∃ g cap, v' = .slice (some ⟨g, 0, none⟩) (xs.length + 1) cap := by
    rcases hown'.2 with ⟨_, h0⟩ | ⟨g, cap, cur, e, _⟩
    · omega
    · exact ⟨g, cap, e⟩
  have hT : Told B (w1.setCell ⟨c, 0, none⟩ (.slice (some ⟨g, 0, none⟩) (xs.length + 1) cap)) c (xs ++ [z]) := by
    have hgc : (Value.slice (some ⟨g, 0, none⟩) (xs.length + 1) cap).ownBlock ≠ some c := fun e => by
      rcases hown'.2 with ⟨h1, _⟩ | ⟨g2, cap2, cur, e2, _, hg, _⟩
      · cases h1
      · simp [Value.ownBlock] at e
        subst e
        cases e2
        rw [hu1] at hg
        simp at hg
    refine ⟨hBc, .slice (some ⟨g, 0, none⟩) (xs.length + 1) cap, ?_, ?_⟩
    · have := heap_set hu1 0 (.slice (some ⟨g, 0, none⟩) (xs.length + 1) cap)
      simpa using this
    · have hk : w1.grownBy (w1.setCell ⟨c, 0, none⟩ (.slice (some ⟨g, 0, none⟩) (xs.length + 1) cap)) (some c) := ⟨rfl, rfl, rfl, by simp [World.setCell], fun k _ hk => by
        simp only [World.setCell, Array.getElem?_modify]
        rw [if_neg (fun e => hk (by simp [e]))]⟩
      have := hown'.kept hk (.inr hgc)
      simpa using this
  have hB2 : Below B w (w1.setCell ⟨c, 0, none⟩ (.slice (some ⟨g, 0, none⟩) (xs.length + 1) cap)) := hB.setCell hBc _
  clear c0 hi hz0 hz1 hz2 hu hu1 hown hown' hne hgrow hB
  have hT := hidden hT
  have hB2 := hidden hB2
  go_wp2
  go_end0
  exact ⟨rfl, hT.out, hB2.out⟩
/-- All bits of the first words. -/
def told (ws : List Nat) : Nat → List Nat
  | 0 => []
  | i + 1 => told ws i ++ (bitsL (ws.getD i 0)).map (64 * i + ·)
theorem told_len (ws : List Nat) : ∀ i, (told ws i).length ≤ 64 * i
  | 0 => Nat.le_refl _
  | i + 1 => by
    have h1 := told_len ws i
    have h2 := bitsL_len (ws.getD i 0)
    simp only [told, List.length_append, List.length_map]; omega
theorem Told.below {B c : Nat} {w w' : World} {xs : List Nat} (h : Told B w c xs) (hB : Below w.heap.size w w') : Told B w' c xs := by
  obtain ⟨h1, u, h2, h3⟩ := h
  exact ⟨h1, u, (hB.block c (Array.getElem?_eq_some_iff.1 h2).1).trans h2, owns_below h3 hB⟩
theorem SetAt.belowB {w w' : World} {b B : Nat} {g : Option Nat} {ws : List Nat} (h : SetAt w b g ws) (hB : Below B w w') (hb : b < B) (hg : ∀ x, g = some x → x < B) : SetAt w' b g ws :=
  ⟨(hB.block b hb).trans h.head, h.empty, fun x hx => (hB.block x (hg x hx)).trans (h.row x hx)⟩
theorem tab_below {w w' : World} {g B : Nat} {tab : List Nat} (h : TabAt g tab w) (hB : Below B w w') (hg : g < B) : TabAt g tab w' := fun j hj => (hB.cell (p := ⟨g, j, none⟩) hg).trans (h j hj)

set_option maxHeartbeats 1600000 in
theorem each_c (B b c : Nat) (g : Option Nat) (ws : List Nat) (w : World) (hf : Fit ws) (h : SetAt w b g ws) (hb : b < B) (hg : ∀ x, g = some x → x < B) (hT : TabAt 0 Lib.deBruijn64tab w) (hB0 : 0 < B) (ht : Told B w c []) :
    Calls Tryd.prog 20 #[.pointer (some ⟨b, 0, none⟩), .func (.func 21) #[] #[.pointer (some ⟨c, 0, none⟩)]] w fun e w' =>
      e = .returned (.tuple #[]) ∧ Told B w' c (told ws ws.length) ∧ Below B w w' := by
  have hw := wide_c b g ws w h
  have hlen := hf.short
  have hrs : ∀ i, told ws (i + 1) = told ws i ++ (bitsL (ws.getD i 0)).map (64 * i + ·) := fun i => rfl
  have hrs := hidden hrs
  have htl := hidden fun i => told_len ws i
  have h := hidden h
  have hf := hidden hf
  have hT := hidden hT
  have ht := hidden ht
  have hg := hidden hg
  have ht0 : Hid (told ws 0 = []) := (rfl : _ = _)
  generalize hql : told ws = ql at *
  go_enter Tryd.func20, Tryd.ntmps20
  go_wp2_with fail
  refine hw.mono ?_
  rintro e w' ⟨rfl, rfl⟩
  clear hw
  go_wp2_with fail
  go_loopw [8] (fun i wr => ∃ j : Nat, j ≤ ws.length ∧ i = .int .i64 j ∧ Hid (Told B wr c (ql j)) ∧ Hid (Below B w' wr)) (fun i _ => ws.length - (intOf i).toNat)
  case atStart => exact ⟨0, Nat.zero_le _, rfl, by rw [ht0.out]; exact ht, Below.refl _ _⟩
  case round =>
    obtain ⟨j, hj, rfl, hTo, hBl⟩ := hrel
    by_cases hlt : j < ws.length
    · have hj1 : (j : Int) < (ws.length : Int) := by omega
      have h2 := h.out.belowB hBl.out hb hg.out
      cases g with
      | none => have hn := h.out.empty rfl; subst hn; simp at hlt
      | some g =>
        have c0 := h2.cell0
        simp only [rowV] at c0
        have c1 := h2.cell j hlt
        have hx0 := hf.out.at j
        have hstep := hrs.out j
        generalize ws.getD j 0 = x0 at *
        replace hstep := hidden hstep
        clear h2
        obtain ⟨wo, hwo⟩ : ∃ wo, wo = wr := ⟨_, rfl⟩
        have hTo0 : Hid (Told B wr c (ql j ++ [])) := by rw [List.append_nil]; exact hTo
        have e1 : wrap64 (64 * (j : Int)) = 64 * (j : Int) := IntWalk.wrap64_in _ (by omega)
        have htlj := htl.out j
        have hb0 := bitsL_len x0
        go_wp2_with fail
        go_loopw [5] (fun u wr => ∃ (x : Nat) (pre : List Nat), u = .int .u64 (x : Int) ∧ x < 18446744073709551616 ∧ Hid (Told B wr c (ql j ++ pre)) ∧ Hid (pre ++ (bitsL x).map (64 * j + ·) = (bitsL x0).map (64 * j + ·)) ∧ Hid (Below B w' wr))
          (fun u _ => (intOf u).toNat)
        case atStart => exact ⟨x0, [], rfl, hx0, hTo0, (rfl : _ = _), hBl⟩
        case round =>
          clear c0 c1 hTo hTo0 hBl hwo
          obtain ⟨x, pre, rfl, hx, hTo, hpre, hBl⟩ := hrel
          by_cases hx1 : x = 0
          · subst hx1
            have hnext : Hid (Told B wr c (ql (j + 1))) := by
              have e := hpre.out
              rw [bitsL_zero, List.map_nil, List.append_nil] at e
              rw [hstep.out, ← e]; exact hTo.out
            clear hpre hTo
            go_wp2
            go_roundw
            case rel => exact ⟨j + 1, by omega, by go_num, hnext, hBl⟩
            case measure => simp [intOf]; omega
          · have hxb : ((x : Int) == 0) = false := by simp; omega
            have hcons := bitsL_cons x hx1 hx
            obtain ⟨hk, -, -, -⟩ := low_spec x hx1 hx
            have htz := tz_c x wr hx1 hx (tab_below hT.out hBl.out hB0)
            have hand := u64_and_nat x (x - 1) hx (by omega)
            have hsub : IntKind.u64.wrap ((x : Int) - 1) = ((x - 1 : Nat) : Int) := by rw [IntWalk.u64_in] <;> omega
            have hle : x &&& (x - 1) < x := Nat.lt_of_le_of_lt Nat.and_le_right (by omega)
            rw [hcons] at hpre
            generalize Lib.ctz 64 x = k at *
            generalize x &&& (x - 1) = x2 at *
            generalize x - 1 = x1 at *
            have e2 : 64 * (j : Int) + (k : Int) = ((64 * j + k : Nat) : Int) := by omega
            have e3 : wrap64 ((64 * j + k : Nat) : Int) = ((64 * j + k : Nat) : Int) := IntWalk.wrap64_in _ (by omega)
            have hpl : (ql j ++ pre).length ≤ 100000 := by
              have := congrArg List.length hpre.out
              simp only [List.length_append, List.length_map, List.length_cons] at this ⊢
              omega
            have htell := tell_c B c (64 * j + k) _ wr hTo.out hpl
            have hpre2 : Hid ((pre ++ [64 * j + k]) ++ (bitsL x2).map (64 * j + ·) = (bitsL x0).map (64 * j + ·)) := by
              show _ = _
              have e := hpre.out
              rw [List.map_cons] at e
              rw [← e]; simp
            generalize 64 * j + k = z at *
            have hsz := hBl.out.size
            clear hpre hcons hpl hTo
            go_wp2_with fail
            refine htz.mono ?_
            rintro e wr ⟨rfl, rfl⟩
            clear htz
            have hx2 := hidden (Nat.lt_trans hle hx)
            replace hle := hidden hle
            have hlen' := hidden hlen
            clear hsz htlj hb0 hx hk
            go_wp2_with fail
            refine htell.mono ?_
            rintro e w3 ⟨rfl, hT3, hB3⟩
            replace hT3 : Hid (Told B w3 c (ql j ++ (pre ++ [z]))) := by show Told _ _ _ _; rw [← List.append_assoc]; exact hT3
            replace hB3 : Hid (Below B w' w3) := hBl.out.trans hB3
            clear htell hBl
            go_wp2
            go_roundw
            case rel => exact ⟨x2, pre ++ [z], by first | rfl | go_num, hx2.out, hT3, hpre2, hB3⟩
            case measure =>
              have := hle.out
              simp [intOf]; omega
    · have hj1 : ¬ (j : Int) < (ws.length : Int) := by omega
      obtain rfl : j = ws.length := by omega
      go_wp2
      go_end0
      exact ⟨rfl, hTo.out, hBl.out⟩

def ints (xs : List Nat) : List Value := xs.map fun (x : Nat) => Value.int .i64 (x : Int)
set_option maxHeartbeats 1600000 in
theorem list_c (b : Nat) (g : Option Nat) (ws : List Nat) (w : World) (hf : Fit ws) (h : SetAt w b g ws) (hT : TabAt 0 Lib.deBruijn64tab w) :
    Calls Tryd.prog 12 #[.pointer (some ⟨b, 0, none⟩)] w fun e w' => ∃ v, e = .returned v ∧ Holds w' v (ints (told ws ws.length)) ∧ Below w.heap.size w w' := by
  obtain ⟨i0, hi, hz0, hz1, hz2⟩ := info_parts infoI
  have hl := len_c b g ws w hf h
  have hb := h.lt
  have hg : ∀ x, g = some x → x < w.heap.size := fun x hx => by subst hx; exact h.glt
  have hmk : ∀ (c : Nat) (w : World), c ≤ 131072 → (Instr.makeSlice 22 (.int .i64 0) (.int .i64 (c : Int))).run Tryd.prog w = .ok (.slice (some ⟨w.heap.size, 0, none⟩) 0 c) (w.alloc (.cells (madeCells (Value.int .i64 0).cells (c * 1)) 3)) := fun c w hc => by
    rw [run_makeSlice w 22 3 i0 (.int .i64 0) Tryd.underlying22 hi hz0 .i64 .i64 0 c (by omega) (by omega) (by rw [hz1]; simp; omega) (by rw [hz2]; omega) (by omega)]
    rw [hz1]; simp
  have h := hidden h
  have hf := hidden hf
  have hT := hidden hT
  go_enter Tryd.func12, Tryd.ntmps12
  go_wp2_with fail
  refine hl.mono ?_
  rintro e w' ⟨⟨c, hc, rfl⟩, rfl⟩
  replace hmk := fun w => hmk c w hc
  clear hl
  go_wp2_with fail
  have hB1 : Below w'.heap.size w' ((w'.alloc (.cells (madeCells #[.int .i64 0] c) 3)).alloc (.cells #[.slice (some ⟨w'.heap.size, 0, none⟩) 0 c] 22)) :=
    ((Below.refl _ _).alloc (Nat.le_refl _) _).alloc (by show _ ≤ (w'.heap.push _).size; simp) _
  have ht : Told w'.heap.size ((w'.alloc (.cells (madeCells #[.int .i64 0] c) 3)).alloc (.cells #[.slice (some ⟨w'.heap.size, 0, none⟩) 0 c] 22)) (w'.heap.size + 1) [] :=
    ⟨by omega, _, heap_alloc2_new _ _ _, (World.ownsRow_made w' _ c (Nat.le_refl _) (by unfold maxLen; omega) (by have := size_madeCells #[Value.int .i64 0] c; rw [Nat.mul_one]; exact this)).alloc _⟩
  have h0 : 0 < w'.heap.size := World.block_lt_of_cell? _ _ (hT.out 0 (by decide))
  have he := each_c w'.heap.size b (w'.heap.size + 1) g ws _ hf.out (h.out.below hB1) hb hg (tab_below hT.out hB1 h0) h0 ht
  generalize (w'.alloc (.cells (madeCells #[.int .i64 0] c) 3)).alloc (.cells #[.slice (some ⟨w'.heap.size, 0, none⟩) 0 c] 22) = w2 at *
  clear ht
  refine he.mono ?_
  rintro e w3 ⟨rfl, hT3, hB3⟩
  clear he hmk hi hz0 hz1 hz2
  obtain ⟨-, u, hu, hown⟩ := hT3
  have c0 : w3.cell? ⟨w'.heap.size + 1, 0, none⟩ = some u := by simp [World.cell?, hu]
  have hfin := hidden (holds_of_owns hown)
  have hfb := hidden (hB1.trans hB3)
  clear hown hB1 hB3 hu
  go_wp2
  go_ret
  exact ⟨u, rfl, hfin.out, hfb.out⟩
end Go.Proofs.YtfjhiaafabmpbagDoor
