/-
  THE NUMBERS OF A SET, ONE BY ONE, AND AS A LIST: by contract.
-/
import Derived.Test.YtieinedancdokacDoorPB
import Derived.Shelf.Spec.TrailingZeros
import Derived.Laws.Bits128
import Derived.Laws.ShiftsVarLaws
namespace Go.Proofs.YtieinedancdokacDoor
open Go.ChangeShapes Go.WideShapes Go.ChangeAt Go.RowKit

/-! ### The lowest bit -/
theorem low_spec (x : Nat) (h0 : x ≠ 0) (hx : x < 18446744073709551616) : Lib.ctz 64 x < 64 ∧ x.testBit (Lib.ctz 64 x) = true ∧ (∀ j, j < Lib.ctz 64 x → x.testBit j = false) ∧
    (∀ j, (x &&& (x - 1)).testBit j = (x.testBit j && !(j == Lib.ctz 64 x))) := by
  obtain ⟨m, hm, hk⟩ := Lib.ctzFrom_spec 64 x (by omega) hx
  have hc : Lib.ctz 64 x = Lib.ctzFrom 64 x := by simp [Lib.ctz, h0]
  rw [hc]
  generalize Lib.ctzFrom 64 x = k at *
  clear hc
  have hb : ∀ j, x.testBit j = if j < k then false else (2 * m + 1).testBit (j - k) := fun j => by
    rw [hm, show 2 ^ k * (2 * m + 1) = 2 ^ k * (2 * m + 1) + 0 by omega, Nat.testBit_two_pow_mul_add _ (Nat.two_pow_pos k)]
    simp
  have hp := Nat.two_pow_pos k
  have hs : ∀ j, (x - 1).testBit j = if j < k then (2 ^ k - 1).testBit j else (2 * m).testBit (j - k) := fun j => by
    rw [hm, show 2 ^ k * (2 * m + 1) - 1 = 2 ^ k * (2 * m) + (2 ^ k - 1) by rw [Nat.mul_add]; omega, Nat.testBit_two_pow_mul_add _ (by omega)]
  refine ⟨hk, ?_, fun j hj => ?_, fun j => ?_⟩
  · rw [hb, if_neg (by omega)]; simp
  · rw [hb, if_pos hj]
  · rw [Nat.testBit_and, hb, hs]
    by_cases h1 : j < k
    · simp [h1]
    · rw [if_neg h1, if_neg h1]
      by_cases h2 : j = k
      · subst h2; simp
      · have h3 : (j == k) = false := by simpa using h2
        obtain ⟨d, hd⟩ : ∃ d, j - k = d + 1 := ⟨j - k - 1, by omega⟩
        rw [hd, h3]
        have e1 : (2 * m + 1).testBit (d + 1) = m.testBit d := by rw [Nat.testBit_succ]; congr 1; omega
        have e2 : (2 * m).testBit (d + 1) = m.testBit d := by rw [Nat.testBit_succ]; congr 1; omega
        rw [e1, e2]; simp
/-- The bits of a word, rising. -/
def bitsL (x : Nat) : List Nat := (List.range 64).filter (x.testBit ·)
theorem filter_least (p q : Nat → Bool) (n k : Nat) (hk : k < n) (h1 : p k = true) (h2 : ∀ j, j < k → p j = false) (h3 : ∀ j, q j = (p j && !(j == k))) : (List.range n).filter p = k :: (List.range n).filter q := by
  have hr : List.range n = List.range k ++ k :: (List.range' (k + 1) (n - k - 1)) := by
    rw [List.range_eq_range', List.range_eq_range']
    rw [show n = k + (1 + (n - k - 1)) by omega, ← List.range'_append_1, Nat.zero_add, ← List.range'_append_1 (m := 1)]
    simp
  rw [hr, List.filter_append, List.filter_append]
  have a : (List.range k).filter p = [] := List.filter_eq_nil_iff.2 fun j hj => by simp [h2 j (List.mem_range.1 hj)]
  have b : (List.range k).filter q = [] := List.filter_eq_nil_iff.2 fun j hj => by simp [h3, h2 j (List.mem_range.1 hj)]
  rw [a, b, List.filter_cons, List.filter_cons, h1, h3 k]
  simp only [List.nil_append, if_true, beq_self_eq_true, Bool.not_true, Bool.and_false, Bool.false_eq_true, if_false]
  congr 1
  apply List.filter_congr
  intro j hj
  rw [h3]
  have : (j == k) = false := by
    simp only [List.mem_range'_1] at hj
    simp; omega
  simp [this]
theorem bitsL_cons (x : Nat) (h0 : x ≠ 0) (hx : x < 18446744073709551616) : bitsL x = Lib.ctz 64 x :: bitsL (x &&& (x - 1)) := by
  obtain ⟨h1, h2, h3, h4⟩ := low_spec x h0 hx
  exact filter_least _ _ 64 _ h1 h2 h3 h4
theorem bitsL_zero : bitsL 0 = [] := by
  apply List.filter_eq_nil_iff.2
  intro j _
  simp
theorem bitsL_len (x : Nat) : (bitsL x).length ≤ 64 := by
  have := List.length_filter_le (x.testBit ·) (List.range 64)
  simpa [bitsL] using this

/-! ### math/bits -/
set_option maxHeartbeats 800000 in
theorem tz_core (x k idx : Nat) (w : World) (hx0 : ((x : Int) == 0) = false)
    (key : IntKind.u64.wrap (bits BinOp.and IntKind.u64 (x : Int) (IntKind.u64.wrap (-(x : Int))) * 285870213051353865) / 288230376151711744 = (idx : Int))
    (hi : idx < 64) (hk : k < 64) (hcell : w.cell? ⟨0, idx, none⟩ = some (.int .u8 k)) :
    Calls Tryd.prog 22 #[.int .u64 x] w fun e w' => e = .returned (.int .i64 k) ∧ w' = w := by
  go_enter Tryd.func22, Tryd.ntmps22
  go_wp2_with (simp only [key])
  go_ret
  exact ⟨rfl, rfl⟩
theorem tz_c (x : Nat) (w : World) (h0 : x ≠ 0) (hx : x < 18446744073709551616) (hT : TabAt 0 Lib.deBruijn64tab w) :
    Calls Tryd.prog 22 #[.int .u64 x] w fun e w' => e = .returned (.int .i64 (Lib.ctz 64 x : Nat)) ∧ w' = w := by
  obtain ⟨hlow, hk⟩ := Lib.lowest_bit 64 x h0 hx
  obtain ⟨hi, htab⟩ := Lib.deBruijn64_at _ hk
  have hcell := hT _ hi
  rw [htab] at hcell
  exact tz_core x _ _ w (by simp; omega) (tz64_key x _ hx h0 hlow) hi hk hcell
set_option maxHeartbeats 800000 in
theorem ones_c (x : Int) (w : World) : Calls Tryd.prog 27 #[.int .u64 x] w fun e w' => (∃ c : Nat, c < 128 ∧ e = .returned (.int .i64 c)) ∧ w' = w := by
  have h127 := i64_and127
  have hm : ∀ n : Int, ∃ c : Nat, c < 128 ∧ Ending.returned (.int .i64 (n % 128)) = Ending.returned (.int .i64 c) := fun n => ⟨(n % 128).toNat, by omega, by rw [Int.toNat_of_nonneg (by omega)]⟩
  have hm := hidden hm
  go_enter Tryd.func27, Tryd.ntmps27
  go_wp2
  go_ret
  exact ⟨hm.out _, rfl⟩
set_option maxHeartbeats 800000 in
theorem count_c (x : Int) (w : World) : Calls Tryd.prog 24 #[.int .u64 x] w fun e w' => (∃ c : Nat, c < 128 ∧ e = .returned (.int .i64 c)) ∧ w' = w := by
  have ho := ones_c x w
  go_enter Tryd.func24, Tryd.ntmps24
  go_wp2_with fail
  refine ho.mono ?_
  rintro e w' ⟨⟨c, hc, rfl⟩, rfl⟩
  clear ho
  go_wp2
  go_ret
  exact ⟨⟨c, hc, rfl⟩, rfl⟩
set_option maxHeartbeats 800000 in
theorem len_c (b : Nat) (g : Option Nat) (ws : List Nat) (w : World) (hf : Fit ws) (h : SetAt w b g ws) : Calls Tryd.prog 13 #[.pointer (some ⟨b, 0, none⟩)] w fun e w' =>
    (∃ c : Nat, c ≤ 131072 ∧ e = .returned (.int .i64 c)) ∧ w' = w := by
  have hw := wide_c b g ws w h
  have hc := fun x w => count_c x w
  have c0 := h.cell0
  have hlen := hf.short
  have h := hidden h
  go_enter Tryd.func13, Tryd.ntmps13
  go_wp2_with fail
  refine hw.mono ?_
  rintro e w' ⟨rfl, rfl⟩
  clear hw
  go_wp2_with fail
  go_loop [3, 7] (fun u i => ∃ j c : Nat, j ≤ ws.length ∧ c ≤ 128 * j ∧ u = .int .i64 c ∧ i = .int .i64 j) (fun _ i => ws.length - (intOf i).toNat)
  case atStart => exact ⟨0, 0, Nat.zero_le _, Nat.zero_le _, rfl, rfl⟩
  case round =>
    obtain ⟨j, c, hj, hcj, rfl, rfl⟩ := hrel
    by_cases hlt : j < ws.length
    · have hj1 : (j : Int) < (ws.length : Int) := by omega
      cases g with
      | none => have hn := h.out.empty rfl; subst hn; simp at hlt
      | some g =>
        simp only [rowV] at c0
        have c1 := h.out.cell j hlt
        generalize ws.getD j 0 = x at *
        go_wp2_with fail
        refine (hc _ _).mono ?_
        rintro e w' ⟨⟨d, hd, rfl⟩, rfl⟩
        have e4 : wrap64 ((c : Int) + (d : Int)) = ((c + d : Nat) : Int) := by rw [IntWalk.wrap64_in] <;> omega
        clear hc
        go_wp2
        go_round
        case rel => exact ⟨j + 1, c + d, by omega, by omega, rfl, by go_num⟩
        case measure => simp [intOf]; omega
    · have hj1 : ¬ (j : Int) < (ws.length : Int) := by omega
      clear hc
      go_wp2
      go_ret
      exact ⟨⟨c, by omega, rfl⟩, rfl⟩

/-- A variable that holds a row of its own. -/
structure Told (B : Nat) (w : World) (c : Nat) (xs : List Nat) : Prop where
  bc : B ≤ c
  cell : ∃ u, w.heap[c]? = some (.cells #[u] 25) ∧ w.ownsRow B 3 1 u xs.length (xs.map fun (x : Nat) => Value.int .i64 (x : Int))
theorem heap_set {x : World} {b : Nat} {cs : Array Value} {t : TypeId} (h : x.heap[b]? = some (.cells cs t)) (j : Nat) (v : Value) : (x.setCell ⟨b, j, none⟩ v).heap[b]? = some (.cells (cs.setIfInBounds j v) t) := by
  simp [World.setCell, Array.getElem?_modify, h]
theorem infoI : (Tryd.prog.info? 3).map (fun i => (i.zero, i.size, i.bytes)) = some (some (.int .i64 0), 1, 8) := by kernel_rfl
theorem owns_below {w w' : World} {base : Nat} {e : TypeId} {size : Nat} {v : Value} {n : Nat} {xs : List Value} (h : w.ownsRow base e size v n xs) (hB : Below w.heap.size w w') : w'.ownsRow base e size v n xs := by
  obtain ⟨hl, h⟩ := h
  refine ⟨hl, ?_⟩
  rcases h with h | ⟨g, cap, cur, e1, hg, hcell, r⟩
  · exact .inl h
  · exact .inr ⟨g, cap, cur, e1, hg, (hB.block g (Array.getElem?_eq_some_iff.1 hcell).1).trans hcell, r⟩
set_option maxHeartbeats 800000 in
theorem tell_c (B c z : Nat) (xs : List Nat) (w : World) (h : Told B w c xs) (hl : xs.length ≤ 100000) : Calls Tryd.prog 26 #[.int .i64 z, .pointer (some ⟨c, 0, none⟩)] w fun e w' =>
    e = .returned (.tuple #[]) ∧ Told B w' c (xs ++ [z]) ∧ Below B w w' := by
  obtain ⟨i0, hi, hz0, hz1, hz2⟩ := info_parts infoI
  obtain ⟨hBc, u, hu, hown⟩ := h
  have c0 : w.cell? ⟨c, 0, none⟩ = some u := by simp [World.cell?, hu]
  have hcl : c < w.heap.size := (Array.getElem?_eq_some_iff.1 hu).1
  have hne : u.ownBlock ≠ some c := fun e => by
    rcases hown.2 with ⟨rfl, _⟩ | ⟨g, cap, cur, rfl, _, hg, _⟩
    · simp [Value.ownBlock] at e
    · simp [Value.ownBlock] at e
      subst e
      rw [hu] at hg
      simp at hg
  go_enter Tryd.func26, Tryd.ntmps26
  go_wp2_with (at_builtin; refine wpList_append_own _ rfl _ _ 25 rfl B 3 i0 (.int .i64 0) 1 8 Tryd.underlying25 hi hz0 hz1 hz2 rfl (by decide) _ _ _ rfl (hown.alloc _) ⟨w.heap.size, 0, none⟩ 1 1 [.int .i64 z] rfl rfl (cell_one_new _ _ _) ?c2 ?c3 ?c4 ?c5 ?_)
  case c2 => intro u hu; simp at hu; subst hu; rfl
  case c3 => unfold maxLen; omega
  case c4 => omega
  case c5 => simp; omega
  intro v' w1 hown' hgrow _
  have hu1 : w1.heap[c]? = some (.cells #[u] 25) := (hgrow.block c (by simp; omega) (fun e => hne e.symm)).trans ((heap_alloc_old _ _ hcl).trans hu)
  have d0 : w1.cell? ⟨c, 0, none⟩ = some u := by simp [World.cell?, hu1]
  have d1 : w1.frozen? ⟨c, 0, none⟩ = false := by simp [World.frozen?, hu1]
  have hB : Below B w w1 := (((Below.refl B w).alloc (by omega) _)).grown hgrow (by simp; omega) (fun j hj => (hown.lt j hj).1)
  obtain ⟨g, cap, rfl⟩ : ∃ g cap, v' = .slice (some ⟨g, 0, none⟩) (xs.length + 1) cap := by
    rcases hown'.2 with ⟨_, h0⟩ | ⟨g, cap, cur, e, _⟩
    · omega
    · exact ⟨g, cap, e⟩
  have hT : Told B (w1.setCell ⟨c, 0, none⟩ (.slice (some ⟨g, 0, none⟩) (xs.length + 1) cap)) c (xs ++ [z]) := by
    have hgc : (Value.slice (some ⟨g, 0, none⟩) (xs.length + 1) cap).ownBlock ≠ some c := fun e => by
      rcases hown'.2 with ⟨h1, _⟩ | ⟨g2, cap2, cur, e2, _, hg, _⟩
      · cases h1
      · simp [Value.ownBlock] at e
        subst e
        cases e2
        rw [hu1] at hg
        simp at hg
    refine ⟨hBc, .slice (some ⟨g, 0, none⟩) (xs.length + 1) cap, ?_, ?_⟩
    · have := heap_set hu1 0 (.slice (some ⟨g, 0, none⟩) (xs.length + 1) cap)
      simpa using this
    · have hk : w1.grownBy (w1.setCell ⟨c, 0, none⟩ (.slice (some ⟨g, 0, none⟩) (xs.length + 1) cap)) (some c) := ⟨rfl, rfl, rfl, by simp [World.setCell], fun k _ hk => by
        simp only [World.setCell, Array.getElem?_modify]
        rw [if_neg (fun e => hk (by simp [e]))]⟩
      have := hown'.kept hk (.inr hgc)
      simpa using this
  have hB2 : Below B w (w1.setCell ⟨c, 0, none⟩ (.slice (some ⟨g, 0, none⟩) (xs.length + 1) cap)) := hB.setCell hBc _
  clear c0 hi hz0 hz1 hz2 hu hu1 hown hown' hne hgrow hB
  have hT := hidden hT
  have hB2 := hidden hB2
  go_wp2
  go_end0
  exact ⟨rfl, hT.out, hB2.out⟩
/-- All bits of the first words. -/
def told (ws : List Nat) : Nat → List Nat
  | 0 => []
  | i + 1 => told ws i ++ (bitsL (ws.getD i 0)).map (64 * i + ·)
theorem told_len (ws : List Nat) : ∀ i, (told ws i).length ≤ 64 * i
  | 0 => Nat.le_refl _
  | i + 1 => by
    have h1 := told_len ws i
    have h2 := bitsL_len (ws.getD i 0)
    simp only [told, List.length_append, List.length_map]; omega
theorem Told.below {B c : Nat} {w w' : World} {xs : List Nat} (h : Told B w c xs) (hB : Below w.heap.size w w') : Told B w' c xs := by
  obtain ⟨h1, u, h2, h3⟩ := h
  exact ⟨h1, u, (hB.block c (Array.getElem?_eq_some_iff.1 h2).1).trans h2, owns_below h3 hB⟩
theorem SetAt.belowB {w w' : World} {b B : Nat} {g : Option Nat} {ws : List Nat} (h : SetAt w b g ws) (hB : Below B w w') (hb : b < B) (hg : ∀ x, g = some x → x < B) : SetAt w' b g ws :=
  ⟨(hB.block b hb).trans h.head, h.empty, fun x hx => (hB.block x (hg x hx)).trans (h.row x hx)⟩
theorem tab_below {w w' : World} {g B : Nat} {tab : List Nat} (h : TabAt g tab w) (hB : Below B w w') (hg : g < B) : TabAt g tab w' := fun j hj => (hB.cell (p := ⟨g, j, none⟩) hg).trans (h j hj)

set_option maxHeartbeats 1600000 in
theorem each_c (B b c : Nat) (g : Option Nat) (ws : List Nat) (w : World) (hf : Fit ws) (h : SetAt w b g ws) (hb : b < B) (hg : ∀ x, g = some x → x < B) (hT : TabAt 0 Lib.deBruijn64tab w) (hB0 : 0 < B) (ht : Told B w c []) :
    Calls Tryd.prog 25 #[.pointer (some ⟨b, 0, none⟩), .func (.func 26) #[] #[.pointer (some ⟨c, 0, none⟩)]] w fun e w' =>
      e = .returned (.tuple #[]) ∧ Told B w' c (told ws ws.length) ∧ Below B w w' := by
  have hw := wide_c b g ws w h
  have hlen := hf.short
  have hrs : ∀ i, told ws (i + 1) = told ws i ++ (bitsL (ws.getD i 0)).map (64 * i + ·) := fun i => rfl
  have hrs := hidden hrs
  have htl := hidden fun i => told_len ws i
  have h := hidden h
  have hf := hidden hf
  have hT := hidden hT
  have ht := hidden ht
  have hg := hidden hg
  have ht0 : Hid (told ws 0 = []) := (rfl : _ = _)
  generalize hql : told ws = ql at *
  go_enter Tryd.func25, Tryd.ntmps25
  go_wp2_with fail
  refine hw.mono ?_
  rintro e w' ⟨rfl, rfl⟩
  clear hw
  go_wp2_with fail
  go_loopw [8] (fun i wr => ∃ j : Nat, j ≤ ws.length ∧ i = .int .i64 j ∧ Hid (Told B wr c (ql j)) ∧ Hid (Below B w' wr)) (fun i _ => ws.length - (intOf i).toNat)
  case atStart => exact ⟨0, Nat.zero_le _, rfl, by rw [ht0.out]; exact ht, Below.refl _ _⟩
  case round =>
    obtain ⟨j, hj, rfl, hTo, hBl⟩ := hrel
    by_cases hlt : j < ws.length
    · have hj1 : (j : Int) < (ws.length : Int) := by omega
      have h2 := h.out.belowB hBl.out hb hg.out
      cases g with
      | none => have hn := h.out.empty rfl; subst hn; simp at hlt
      | some g =>
        have c0 := h2.cell0
        simp only [rowV] at c0
        have c1 := h2.cell j hlt
        have hx0 := hf.out.at j
        have hstep := hrs.out j
        generalize ws.getD j 0 = x0 at *
        replace hstep := hidden hstep
        clear h2
        obtain ⟨wo, hwo⟩ : ∃ wo, wo = wr := ⟨_, rfl⟩
        have hTo0 : Hid (Told B wr c (ql j ++ [])) := by rw [List.append_nil]; exact hTo
        have e1 : wrap64 (64 * (j : Int)) = 64 * (j : Int) := IntWalk.wrap64_in _ (by omega)
        have htlj := htl.out j
        have hb0 := bitsL_len x0
        go_wp2_with fail
        go_loopw [5] (fun u wr => ∃ (x : Nat) (pre : List Nat), u = .int .u64 (x : Int) ∧ x < 18446744073709551616 ∧ Hid (Told B wr c (ql j ++ pre)) ∧ Hid (pre ++ (bitsL x).map (64 * j + ·) = (bitsL x0).map (64 * j + ·)) ∧ Hid (Below B w' wr))
          (fun u _ => (intOf u).toNat)
        case atStart => exact ⟨x0, [], rfl, hx0, hTo0, (rfl : _ = _), hBl⟩
        case round =>
          clear c0 c1 hTo hTo0 hBl hwo
          obtain ⟨x, pre, rfl, hx, hTo, hpre, hBl⟩ := hrel
          by_cases hx1 : x = 0
          · subst hx1
            have hnext : Hid (Told B wr c (ql (j + 1))) := by
              have e := hpre.out
              rw [bitsL_zero, List.map_nil, List.append_nil] at e
              rw [hstep.out, ← e]; exact hTo.out
            clear hpre hTo
            go_wp2
            go_roundw
            case rel => exact ⟨j + 1, by omega, by go_num, hnext, hBl⟩
            case measure => simp [intOf]; omega
          · have hxb : ((x : Int) == 0) = false := by simp; omega
            have hcons := bitsL_cons x hx1 hx
            obtain ⟨hk, -, -, -⟩ := low_spec x hx1 hx
            have htz := tz_c x wr hx1 hx (tab_below hT.out hBl.out hB0)
            have hand := u64_and_nat x (x - 1) hx (by omega)
            have hsub : IntKind.u64.wrap ((x : Int) - 1) = ((x - 1 : Nat) : Int) := by rw [IntWalk.u64_in] <;> omega
            have hle : x &&& (x - 1) < x := Nat.lt_of_le_of_lt Nat.and_le_right (by omega)
            rw [hcons] at hpre
            generalize Lib.ctz 64 x = k at *
            generalize x &&& (x - 1) = x2 at *
            generalize x - 1 = x1 at *
            have e2 : 64 * (j : Int) + (k : Int) = ((64 * j + k : Nat) : Int) := by omega
            have e3 : wrap64 ((64 * j + k : Nat) : Int) = ((64 * j + k : Nat) : Int) := IntWalk.wrap64_in _ (by omega)
            have hpl : (ql j ++ pre).length ≤ 100000 := by
              have := congrArg List.length hpre.out
              simp only [List.length_append, List.length_map, List.length_cons] at this ⊢
              omega
            have htell := tell_c B c (64 * j + k) _ wr hTo.out hpl
            have hpre2 : Hid ((pre ++ [64 * j + k]) ++ (bitsL x2).map (64 * j + ·) = (bitsL x0).map (64 * j + ·)) := by
              show _ = _
              have e := hpre.out
              rw [List.map_cons] at e
              rw [← e]; simp
            generalize 64 * j + k = z at *
            have hsz := hBl.out.size
            clear hpre hcons hpl hTo
            go_wp2_with fail
            refine htz.mono ?_
            rintro e wr ⟨rfl, rfl⟩
            clear htz
            have hx2 := hidden (Nat.lt_trans hle hx)
            replace hle := hidden hle
            have hlen' := hidden hlen
            clear hsz htlj hb0 hx hk
            go_wp2_with fail
            refine htell.mono ?_
            rintro e w3 ⟨rfl, hT3, hB3⟩
            replace hT3 : Hid (Told B w3 c (ql j ++ (pre ++ [z]))) := by show Told _ _ _ _; rw [← List.append_assoc]; exact hT3
            replace hB3 : Hid (Below B w' w3) := hBl.out.trans hB3
            clear htell hBl
            go_wp2
            go_roundw
            case rel => exact ⟨x2, pre ++ [z], by first | rfl | go_num, hx2.out, hT3, hpre2, hB3⟩
            case measure =>
              have := hle.out
              simp [intOf]; omega
    · have hj1 : ¬ (j : Int) < (ws.length : Int) := by omega
      obtain rfl : j = ws.length := by omega
      go_wp2
      go_end0
      exact ⟨rfl, hTo.out, hBl.out⟩

def ints (xs : List Nat) : List Value := xs.map fun (x : Nat) => Value.int .i64 (x : Int)
set_option maxHeartbeats 1600000 in
theorem list_c (b : Nat) (g : Option Nat) (ws : List Nat) (w : World) (hf : Fit ws) (h : SetAt w b g ws) (hT : TabAt 0 Lib.deBruijn64tab w) :
    Calls Tryd.prog 15 #[.pointer (some ⟨b, 0, none⟩)] w fun e w' => ∃ v, e = .returned v ∧ Holds w' v (ints (told ws ws.length)) ∧ Below w.heap.size w w' := by
  obtain ⟨i0, hi, hz0, hz1, hz2⟩ := info_parts infoI
  have hl := len_c b g ws w hf h
  have hb := h.lt
  have hg : ∀ x, g = some x → x < w.heap.size := fun x hx => by subst hx; exact h.glt
  have hmk : ∀ (c : Nat) (w : World), c ≤ 131072 → (Instr.makeSlice 25 (.int .i64 0) (.int .i64 (c : Int))).run Tryd.prog w = .ok (.slice (some ⟨w.heap.size, 0, none⟩) 0 c) (w.alloc (.cells (madeCells (Value.int .i64 0).cells (c * 1)) 3)) := fun c w hc => by
    rw [run_makeSlice w 25 3 i0 (.int .i64 0) Tryd.underlying25 hi hz0 .i64 .i64 0 c (by omega) (by omega) (by rw [hz1]; simp; omega) (by rw [hz2]; omega) (by omega)]
    rw [hz1]; simp
  have h := hidden h
  have hf := hidden hf
  have hT := hidden hT
  go_enter Tryd.func15, Tryd.ntmps15
  go_wp2_with fail
  refine hl.mono ?_
  rintro e w' ⟨⟨c, hc, rfl⟩, rfl⟩
  replace hmk := fun w => hmk c w hc
  clear hl
  go_wp2_with fail
  have hB1 : Below w'.heap.size w' ((w'.alloc (.cells (madeCells #[.int .i64 0] c) 3)).alloc (.cells #[.slice (some ⟨w'.heap.size, 0, none⟩) 0 c] 25)) :=
    ((Below.refl _ _).alloc (Nat.le_refl _) _).alloc (by show _ ≤ (w'.heap.push _).size; simp) _
  have ht : Told w'.heap.size ((w'.alloc (.cells (madeCells #[.int .i64 0] c) 3)).alloc (.cells #[.slice (some ⟨w'.heap.size, 0, none⟩) 0 c] 25)) (w'.heap.size + 1) [] :=
    ⟨by omega, _, heap_alloc2_new _ _ _, (World.ownsRow_made w' _ c (Nat.le_refl _) (by unfold maxLen; omega) (by have := size_madeCells #[Value.int .i64 0] c; rw [Nat.mul_one]; exact this)).alloc _⟩
  have h0 : 0 < w'.heap.size := World.block_lt_of_cell? _ _ (hT.out 0 (by decide))
  have he := each_c w'.heap.size b (w'.heap.size + 1) g ws _ hf.out (h.out.below hB1) hb hg (tab_below hT.out hB1 h0) h0 ht
  generalize (w'.alloc (.cells (madeCells #[.int .i64 0] c) 3)).alloc (.cells #[.slice (some ⟨w'.heap.size, 0, none⟩) 0 c] 25) = w2 at *
  clear ht
  refine he.mono ?_
  rintro e w3 ⟨rfl, hT3, hB3⟩
  clear he hmk hi hz0 hz1 hz2
  obtain ⟨-, u, hu, hown⟩ := hT3
  have c0 : w3.cell? ⟨w'.heap.size + 1, 0, none⟩ = some u := by simp [World.cell?, hu]
  have hfin := hidden (holds_of_owns hown)
  have hfb := hidden (hB1.trans hB3)
  clear hown hB1 hB3 hu
  go_wp2
  go_ret
  exact ⟨u, rfl, hfin.out, hfb.out⟩
end Go.Proofs.YtieinedancdokacDoor
/-
  RISING LISTS AS THE NUMBERS OF WHICH SOMETHING HOLDS: mathematics alone.
-/
namespace Go.Proofs.YtieinedancdokacDoor
open Go.ChangeShapes Go.WideShapes Go.ChangeAt Go.RowKit

def L (p : Nat → Bool) : List Nat := (List.range 65536).filter p
def lowL (p : Nat → Bool) (m : Nat) : List Nat := (List.range m).filter p
def highL (p : Nat → Bool) (m : Nat) : List Nat := (List.range' (m + 1) (65536 - m - 1)).filter p
theorem range_split (N m : Nat) (hm : m < N) : List.range N = List.range m ++ m :: (List.range' (m + 1) (N - m - 1)) := by
  rw [List.range_eq_range', List.range_eq_range']
  conv => lhs; rw [show N = m + (1 + (N - m - 1)) by omega, ← List.range'_append_1, Nat.zero_add, ← List.range'_append_1 (m := 1)]
  simp
theorem L_split (p : Nat → Bool) (m : Nat) (hm : m < 65536) : L p = lowL p m ++ ((if p m then [m] else []) ++ highL p m) := by
  unfold L lowL highL
  generalize 65536 = N at *
  rw [range_split N m hm, List.filter_append, List.filter_cons]
  congr 1
  cases p m <;> rfl
theorem mem_L {p : Nat → Bool} {k : Nat} : k ∈ L p ↔ k < 65536 ∧ p k = true := by simp [L]
theorem L_congr {p q : Nat → Bool} (h : ∀ k, p k = q k) : L p = L q := by
  have : p = q := funext h
  rw [this]
theorem L_len (p : Nat → Bool) : (L p).length ≤ 65536 := by
  have := List.length_filter_le p (List.range 65536)
  simpa [L] using this
theorem low_congr {p q : Nat → Bool} {m : Nat} (h : ∀ k, k ≠ m → p k = q k) : lowL p m = lowL q m := List.filter_congr fun k hk => h k (by have := List.mem_range.1 hk; omega)
theorem high_congr {p q : Nat → Bool} {m : Nat} (h : ∀ k, k ≠ m → p k = q k) : highL p m = highL q m := List.filter_congr fun k hk => h k (by have := List.mem_range'_1.1 hk; omega)
/-- What is said of the place of a number in a list. -/
structure Place (xs : List Nat) (n : Int) (j : Nat) : Prop where
  le : j ≤ xs.length
  low : ∀ i, i < j → ((xs.getD i 0 : Nat) : Int) < n
  high : j < xs.length → n ≤ ((xs.getD j 0 : Nat) : Int)
theorem place_at {A D : List Nat} {m j : Nat} (hA : ∀ a ∈ A, a < m) (hD : ∀ d ∈ D, m ≤ d) (h : Place (A ++ D) m j) : j = A.length := by
  have hle := h.le
  rw [List.length_append] at hle
  rcases Nat.lt_trichotomy j A.length with h1 | h1 | h1
  · have h2 := h.high (by rw [List.length_append]; omega)
    have e : (A ++ D).getD j 0 = A[j] := by rw [List.getD_eq_getElem?_getD, List.getElem?_append_left h1, List.getElem?_eq_getElem h1]; rfl
    rw [e] at h2
    have := hA _ (List.getElem_mem h1)
    omega
  · exact h1
  · have h2 := h.low A.length h1
    have hd : 0 < D.length := by omega
    have e : (A ++ D).getD A.length 0 = D[0] := by rw [List.getD_eq_getElem?_getD, List.getElem?_append_right (Nat.le_refl _), Nat.sub_self, List.getElem?_eq_getElem hd]; rfl
    rw [e] at h2
    have := hD _ (List.getElem_mem hd)
    omega
theorem low_lt {p : Nat → Bool} {m : Nat} : ∀ a ∈ lowL p m, a < m := fun a ha => by
  simp only [lowL, List.mem_filter, List.mem_range] at ha; exact ha.1
theorem high_ge {p : Nat → Bool} {m : Nat} : ∀ a ∈ ((if p m then [m] else []) ++ highL p m), m ≤ a := fun a ha => by
  rcases List.mem_append.1 ha with h | h
  · split at h <;> simp at h; omega
  · simp only [highL, List.mem_filter, List.mem_range'_1] at h; omega
/-- Whether a number stands at its place. -/
def isAt (xs : List Nat) (n : Int) (j : Nat) : Bool := decide (j < xs.length) && decide (((xs.getD j 0 : Nat) : Int) = n)
theorem isAt_mem {xs : List Nat} {n : Int} {j : Nat} (h : isAt xs n j = true) : ∃ m : Nat, n = m ∧ m ∈ xs := by
  simp only [isAt, Bool.and_eq_true, decide_eq_true_eq] at h
  obtain ⟨h1, h2⟩ := h
  refine ⟨xs.getD j 0, h2.symm, ?_⟩
  have e : xs.getD j 0 = xs[j] := by simp [h1]
  rw [e]; exact List.getElem_mem h1
theorem isAt_L {p : Nat → Bool} {n : Int} {j : Nat} (h : Place (L p) n j) : isAt (L p) n j = (good n && p n.toNat) := by
  by_cases hg : good n = true
  · simp only [good, Bool.and_eq_true, decide_eq_true_eq] at hg
    obtain ⟨m, rfl⟩ := Int.eq_ofNat_of_zero_le hg.1
    have hm : m < 65536 := by omega
    have hgm : good (m : Int) = true := by simp [good]; omega
    rw [hgm, Bool.true_and, Int.toNat_natCast]
    rw [L_split p m hm] at h ⊢
    have hj := place_at low_lt high_ge h
    cases hp : p m with
    | true =>
      simp [isAt, hj]
    | false =>
      cases hi : isAt (lowL p m ++ ((if false then [m] else []) ++ highL p m)) m j with
      | false => simp
      | true =>
        exfalso
        obtain ⟨m', e, hmem⟩ := isAt_mem hi
        have : m' = m := by omega
        subst this
        rw [show lowL p m' ++ ((if false then [m'] else []) ++ highL p m') = L p by rw [L_split p m' hm, hp]] at hmem
        rw [mem_L, hp] at hmem
        cases hmem.2
  · have hg' : good n = false := by simpa using hg
    rw [hg', Bool.false_and]
    cases hi : isAt (L p) n j with
    | false => rfl
    | true =>
      exfalso
      obtain ⟨m, rfl, hmem⟩ := isAt_mem hi
      have := (mem_L.1 hmem).1
      apply hg; simp [good]; omega
theorem L_put {p : Nat → Bool} {m j : Nat} (hm : m < 65536) (hp : p m = false) (h : Place (L p) m j) : (L p).take j ++ [m] ++ (L p).drop j = L fun k => p k || k == m := by
  have hq : ∀ k, k ≠ m → p k = (p k || k == m) := fun k hk => by simp [hk]
  rw [L_split p m hm, hp] at h ⊢
  simp only [Bool.false_eq_true, if_false, List.nil_append] at h ⊢
  have hj := place_at low_lt (fun d hd => high_ge (p := p) d (by rw [hp]; simpa using hd)) h
  rw [L_split (fun k => p k || k == m) m hm, hj, List.take_left, List.drop_left, ← low_congr hq, ← high_congr hq]
  simp
theorem L_cut {p : Nat → Bool} {m j : Nat} (hm : m < 65536) (hp : p m = true) (h : Place (L p) m j) : (L p).take j ++ (L p).drop (j + 1) = L fun k => p k && !(k == m) := by
  have hq : ∀ k, k ≠ m → p k = (p k && !(k == m)) := fun k hk => by simp [hk]
  rw [L_split p m hm, hp] at h ⊢
  simp only [if_true] at h ⊢
  have hj := place_at low_lt (fun d hd => high_ge (p := p) d (by rw [hp]; simpa using hd)) h
  rw [L_split (fun k => p k && !(k == m)) m hm, hj, List.take_left, ← List.drop_drop, List.drop_left, ← low_congr hq, ← high_congr hq]
  simp
/-! ### The numbers of a set -/
theorem told_eq (ws : List Nat) : ∀ i, told ws i = (List.range (64 * i)).filter (has ws)
  | 0 => rfl
  | i + 1 => by
    rw [told, told_eq ws i, show 64 * (i + 1) = 64 * i + 64 by omega, List.range_add, List.filter_append, List.filter_map]
    congr 1
    rw [bitsL]
    congr 1
    apply List.filter_congr
    intro j hj
    have := List.mem_range.1 hj
    simp only [Function.comp, has]
    rw [show (64 * i + j) / 64 = i by omega, show (64 * i + j) % 64 = j by omega]
theorem told_L (ws : List Nat) (hf : Fit ws) : told ws ws.length = L (has ws) := by
  have h1 := hf.short
  rw [told_eq, L, show 65536 = 64 * ws.length + (65536 - 64 * ws.length) by omega, List.range_add, List.filter_append]
  have : ((List.range (65536 - 64 * ws.length)).map fun x => 64 * ws.length + x).filter (has ws) = [] := List.filter_eq_nil_iff.2 fun k hk => by
    obtain ⟨y, _, rfl⟩ := List.mem_map.1 hk
    rw [has_end (by omega)]; simp
  rw [this, List.append_nil]
end Go.Proofs.YtieinedancdokacDoor
/-
  THE LEAST NUMBER OF A SET THAT IS AT LEAST ONE: by contract.
-/
namespace Go.Proofs.YtieinedancdokacDoor
open Go.ChangeShapes Go.WideShapes Go.ChangeAt Go.RowKit

/-- What is told of the numbers of which p holds, from m on. -/
structure NextIs (p : Nat → Bool) (m k : Nat) (ok : Bool) : Prop where
  yes : ok = true → p k = true ∧ m ≤ k ∧ ∀ j, m ≤ j → j < k → p j = false
  no : ok = false → k = 0 ∧ ∀ j, m ≤ j → p j = false
def Nexts (p : Nat → Bool) (m : Nat) (w : World) (e : Ending) (w' : World) : Prop := ∃ (k : Nat) (ok : Bool), e = .returned (.tuple #[.int .i64 (k : Int), .bool ok]) ∧ NextIs p m k ok ∧ w' = w
theorem cleared (x r i : Nat) : (x / 2 ^ r * 2 ^ r).testBit i = (decide (r ≤ i) && x.testBit i) := by
  rw [← Nat.shiftRight_eq_div_pow, ← Nat.shiftLeft_eq, Nat.testBit_shiftLeft, Nat.testBit_shiftRight]
  by_cases h : r ≤ i
  · simp [h, show r + (i - r) = i by omega]
  · simp [h]
theorem cleared_le (x r : Nat) : x / 2 ^ r * 2 ^ r ≤ x := Nat.div_mul_le_self _ _
theorem next_yes {ws : List Nat} {m j x k : Nat} (hx0 : x ≠ 0) (hx : x < 18446744073709551616) (hk : k = Lib.ctz 64 x) (hlow : ∀ i, m ≤ i → i < 64 * j → has ws i = false) (hbit : ∀ i, i < 64 → x.testBit i = (decide (m ≤ 64 * j + i) && has ws (64 * j + i))) :
    NextIs (has ws) m (64 * j + k) true := by
  obtain ⟨h1, h2, h3, _⟩ := low_spec x hx0 hx
  subst hk
  rw [hbit _ h1] at h2
  simp only [Bool.and_eq_true, decide_eq_true_eq] at h2
  refine ⟨fun _ => ⟨h2.2, h2.1, fun i hi hik => ?_⟩, fun h => by cases h⟩
  rcases Nat.lt_or_ge i (64 * j) with h | h
  · exact hlow i hi h
  · have h4 := h3 (i - 64 * j) (by omega)
    rw [hbit _ (by omega), show 64 * j + (i - 64 * j) = i by omega] at h4
    simpa [hi] using h4
theorem next_on {ws : List Nat} {m j : Nat} (hlow : ∀ i, m ≤ i → i < 64 * j → has ws i = false) (hbit : ∀ i, i < 64 → false = (decide (m ≤ 64 * j + i) && has ws (64 * j + i))) : ∀ i, m ≤ i → i < 64 * (j + 1) → has ws i = false := fun i hi hik => by
  rcases Nat.lt_or_ge i (64 * j) with h | h
  · exact hlow i hi h
  · have h4 := hbit (i - 64 * j) (by omega)
    rw [show 64 * j + (i - 64 * j) = i by omega] at h4
    simpa [hi] using h4.symm
theorem bit_at (ws : List Nat) (j i : Nat) (hi : i < 64) : has ws (64 * j + i) = (ws.getD j 0).testBit i := by
  unfold has
  rw [show (64 * j + i) / 64 = j by omega, show (64 * j + i) % 64 = i by omega]
theorem bits_full {ws : List Nat} {m j : Nat} (hm : m / 64 < j) : ∀ i, i < 64 → (ws.getD j 0).testBit i = (decide (m ≤ 64 * j + i) && has ws (64 * j + i)) := fun i hi => by
  rw [bit_at ws j i hi, show decide (m ≤ 64 * j + i) = true by simp; omega, Bool.true_and]
theorem bits_part (ws : List Nat) (m : Nat) : ∀ i, i < 64 → (ws.getD (m / 64) 0 / 2 ^ (m % 64) * 2 ^ (m % 64)).testBit i = (decide (m ≤ 64 * (m / 64) + i) && has ws (64 * (m / 64) + i)) := fun i hi => by
  rw [bit_at ws _ i hi, cleared]
  congr 1
  rw [Bool.eq_iff_iff, decide_eq_true_eq, decide_eq_true_eq]; omega
theorem next_end {ws : List Nat} {m j : Nat} (hj : ws.length ≤ j) (hlow : ∀ i, m ≤ i → i < 64 * j → has ws i = false) : NextIs (has ws) m 0 false :=
  ⟨(fun h => by cases h), fun _ => ⟨rfl, fun i hi => by
    rcases Nat.lt_or_ge i (64 * j) with h | h
    · exact hlow i hi h
    · exact has_end (by omega)⟩⟩
set_option maxHeartbeats 1600000 in
theorem nextP_c (b : Nat) (g : Option Nat) (ws : List Nat) (m : Nat) (w : World) (hf : Fit ws) (h : SetAt w b g ws) (hm9 : m ≤ 9223372036854775807) (hT : TabAt 0 Lib.deBruijn64tab w) :
    Calls Tryd.prog 11 #[.pointer (some ⟨b, 0, none⟩), .int .i64 (m : Int)] w (Nexts (has ws) m w) := by
  have hw := wide_c b g ws w h
  have hlen := hf.short
  have c0 := h.cell0
  have hm0 : ¬ (m : Int) < 0 := by omega
  have hm1 : (0 : Int) ≤ (m : Int) := by omega
  have hm2 : (m : Int) ≤ 9223372036854775807 := by omega
  have q1 : (m : Int) / 64 = ((m / 64 : Nat) : Int) := by omega
  have q2 : (m : Int) % 64 = ((m % 64 : Nat) : Int) := by omega
  have hq : m / 64 ≤ 144115188075855872 := by omega
  have hr : m % 64 < 64 := by omega
  have hbp := hidden (bits_part ws m)
  have hbf : Hid (∀ j, m / 64 < j → ∀ i, i < 64 → (ws.getD j 0).testBit i = (decide (m ≤ 64 * j + i) && has ws (64 * j + i))) := fun j hj => bits_full hj
  have hst : Hid (∀ i, m ≤ i → i < 64 * (m / 64) → has ws i = false) := fun i h1 h2 => by omega
  have h := hidden h
  have hf := hidden hf
  have hT := hidden hT
  generalize m / 64 = q at *
  generalize m % 64 = r at *
  go_enter Tryd.func11, Tryd.ntmps11
  go_wp2_with fail
  go_loop [6] (fun i => ∃ j : Nat, q ≤ j ∧ (j ≤ ws.length ∨ j = q) ∧ i = .int .i64 (j : Int) ∧ Hid (∀ i, m ≤ i → i < 64 * j → has ws i = false)) (fun i => ws.length - (intOf i).toNat)
  case atStart => exact ⟨q, Nat.le_refl _, .inr rfl, rfl, hst⟩
  case round =>
    obtain ⟨j, hqj, hj, rfl, hlow⟩ := hrel
    by_cases hlt : j < ws.length
    · have hj1 : (j : Int) < (ws.length : Int) := by omega
      cases g with
      | none => have hn := h.out.empty rfl; subst hn; simp at hlt
      | some g =>
        simp only [rowV] at c0
        have c1 := h.out.cell j hlt
        have hx := hf.out.at j
        by_cases hjq : j = q
        · subst hjq
          have hbit := hbp
          generalize ws.getD j 0 = x at *
          clear hbp hbf hst
          obtain ⟨X, hXe⟩ : ∃ X, Hid (X = x / 2 ^ r * 2 ^ r) := ⟨_, (rfl : _ = _)⟩
          have hXl : X < 18446744073709551616 := by have := cleared_le x r; rw [hXe.out]; omega
          have hwr : IntKind.u64.wrap ((x : Int) / 2 ^ r * 2 ^ r) = (X : Int) := by
            rw [hXe.out, IntWalk.u64_in]
            · simp
            · have := cleared_le x r
              have e : (x : Int) / 2 ^ r * 2 ^ r = ((x / 2 ^ r * 2 ^ r : Nat) : Int) := by simp
              rw [e]; omega
          rw [← hXe.out] at hbit
          replace hqj := hidden hqj
          clear hj hXe hx
          by_cases hX : X = 0
          · have hXb : ((X : Int) != 0) = false := by simp [hX]
            have hnx : Hid (∀ i, m ≤ i → i < 64 * (j + 1) → has ws i = false) := next_on hlow.out fun i hi => by rw [← hbit.out i hi, hX, Nat.zero_testBit]
            clear hX hbit hXl
            go_wp2_with fail
            refine (hw).mono ?_
            rintro e w' ⟨rfl, rfl⟩
            clear hw
            go_wp2
            go_round
            case rel => exact ⟨j + 1, by have := hqj.out; omega, .inl (by omega), by go_num, hnx⟩
            case measure => simp [intOf]; omega
          · have hXb : ((X : Int) != 0) = true := by simp; omega
            have htz := tz_c X w hX hXl hT.out
            have hres := next_yes (m := m) (j := j) hX hXl rfl hlow.out hbit.out
            have hkl := (low_spec X hX hXl).1
            generalize Lib.ctz 64 X = k at *
            have hk1 : (k : Int) < 64 := by omega
            replace hres := hidden hres
            replace hkl := hidden hkl
            clear hX hbit hXl hlow
            go_wp2_with fail
            refine (hw).mono ?_
            rintro e w' ⟨rfl, rfl⟩
            clear hw
            go_wp2_with fail
            refine htz.mono ?_
            rintro e w' ⟨rfl, rfl⟩
            clear htz
            go_wp2
            go_ret2
            exact ⟨64 * j + k, true, by rw [show (64 * (j : Int) + (k : Int)) = ((64 * j + k : Nat) : Int) by omega]; rfl, hres.out, rfl⟩
        · have hjq1 : ((j : Int) == (q : Int)) = false := by simp; omega
          have hbit := hidden (hbf.out j (by omega))
          generalize hXe : ws.getD j 0 = X at *
          replace hXe := hidden hXe
          have hXl := hx
          clear hbp hbf hst hj hXe hx
          replace hqj := hidden hqj
          replace hjq := hidden hjq
          by_cases hX : X = 0
          · have hXb : ((X : Int) != 0) = false := by simp [hX]
            have hnx : Hid (∀ i, m ≤ i → i < 64 * (j + 1) → has ws i = false) := next_on hlow.out fun i hi => by rw [← hbit.out i hi, hX, Nat.zero_testBit]
            clear hX hbit hXl
            go_wp2_with fail
            refine (hw).mono ?_
            rintro e w' ⟨rfl, rfl⟩
            clear hw
            go_wp2
            go_round
            case rel => exact ⟨j + 1, by have := hqj.out; omega, .inl (by omega), by go_num, hnx⟩
            case measure => simp [intOf]; omega
          · have hXb : ((X : Int) != 0) = true := by simp; omega
            have htz := tz_c X w hX hXl hT.out
            have hres := next_yes (m := m) (j := j) hX hXl rfl hlow.out hbit.out
            have hkl := (low_spec X hX hXl).1
            generalize Lib.ctz 64 X = k at *
            have hk1 : (k : Int) < 64 := by omega
            replace hres := hidden hres
            replace hkl := hidden hkl
            clear hX hbit hXl hlow
            go_wp2_with fail
            refine (hw).mono ?_
            rintro e w' ⟨rfl, rfl⟩
            clear hw
            go_wp2_with fail
            refine htz.mono ?_
            rintro e w' ⟨rfl, rfl⟩
            clear htz
            go_wp2
            go_ret2
            exact ⟨64 * j + k, true, by rw [show (64 * (j : Int) + (k : Int)) = ((64 * j + k : Nat) : Int) by omega]; rfl, hres.out, rfl⟩
    · have hj1 : ¬ (j : Int) < (ws.length : Int) := by omega
      have hfin := hidden (next_end (by omega) hlow.out)
      clear hbp hbf hst hlow
      go_wp2_with fail
      refine (hw).mono ?_
      rintro e w' ⟨rfl, rfl⟩
      clear hw
      go_wp2
      go_ret2
      exact ⟨0, false, rfl, hfin.out, rfl⟩
set_option maxHeartbeats 1600000 in
theorem nextM_c (b : Nat) (g : Option Nat) (ws : List Nat) (n : Int) (w : World) (hf : Fit ws) (h : SetAt w b g ws) (hn : n < 0) (hT : TabAt 0 Lib.deBruijn64tab w) :
    Calls Tryd.prog 11 #[.pointer (some ⟨b, 0, none⟩), .int .i64 n] w (Nexts (has ws) 0 w) := by
  have hw := wide_c b g ws w h
  have hlen := hf.short
  have c0 := h.cell0
  have hbf : Hid (∀ j, ∀ i, i < 64 → (ws.getD j 0).testBit i = (decide (0 ≤ 64 * j + i) && has ws (64 * j + i))) := fun j i hi => by rw [bit_at ws j i hi]; simp
  have hst : Hid (∀ i, 0 ≤ i → i < 64 * 0 → has ws i = false) := fun i h1 h2 => by omega
  have h := hidden h
  have hf := hidden hf
  have hT := hidden hT
  go_enter Tryd.func11, Tryd.ntmps11
  go_wp2_with fail
  go_loop [6] (fun i => ∃ j : Nat, 0 ≤ j ∧ (j ≤ ws.length ∨ j = 0) ∧ i = .int .i64 (j : Int) ∧ Hid (∀ i, 0 ≤ i → i < 64 * j → has ws i = false)) (fun i => ws.length - (intOf i).toNat)
  case atStart => exact ⟨0, Nat.le_refl _, .inr rfl, rfl, hst⟩
  case round =>
    obtain ⟨j, hqj, hj, rfl, hlow⟩ := hrel
    by_cases hlt : j < ws.length
    · have hj1 : (j : Int) < (ws.length : Int) := by omega
      cases g with
      | none => have hn := h.out.empty rfl; subst hn; simp at hlt
      | some g =>
        simp only [rowV] at c0
        have c1 := h.out.cell j hlt
        have hx := hf.out.at j
        by_cases hjq : j = 0
        · have hjq1 : ((j : Int) == 0) = true := by simp [hjq]
          have hbit := hidden (hbf.out j)
          generalize hXe : ws.getD j 0 = X at *
          replace hXe := hidden hXe
          have hXl := hx
          have hX9 : (X : Int) < 18446744073709551616 := by omega
          clear hbf hst hj hXe hx
          replace hqj := hidden hqj
          replace hjq := hidden hjq
          by_cases hX : X = 0
          · have hXb : ((X : Int) != 0) = false := by simp [hX]
            have hnx : Hid (∀ i, 0 ≤ i → i < 64 * (j + 1) → has ws i = false) := next_on hlow.out fun i hi => by rw [← hbit.out i hi, hX, Nat.zero_testBit]
            clear hX hbit hXl
            go_wp2_with fail
            refine (hw).mono ?_
            rintro e w' ⟨rfl, rfl⟩
            clear hw
            go_wp2
            go_round
            case rel => exact ⟨j + 1, by have := hqj.out; omega, .inl (by omega), by go_num, hnx⟩
            case measure => simp [intOf]; omega
          · have hXb : ((X : Int) != 0) = true := by simp; omega
            have htz := tz_c X w hX hXl hT.out
            have hres := next_yes (m := 0) (j := j) hX hXl rfl hlow.out hbit.out
            have hkl := (low_spec X hX hXl).1
            generalize Lib.ctz 64 X = k at *
            have hk1 : (k : Int) < 64 := by omega
            replace hres := hidden hres
            replace hkl := hidden hkl
            clear hX hbit hXl hlow
            go_wp2_with fail
            refine (hw).mono ?_
            rintro e w' ⟨rfl, rfl⟩
            clear hw
            go_wp2_with fail
            refine htz.mono ?_
            rintro e w' ⟨rfl, rfl⟩
            clear htz
            go_wp2
            go_ret2
            exact ⟨64 * j + k, true, by rw [show (64 * (j : Int) + (k : Int)) = ((64 * j + k : Nat) : Int) by omega]; rfl, hres.out, rfl⟩
        · have hjq1 : ((j : Int) == 0) = false := by simp; omega
          have hbit := hidden (hbf.out j)
          generalize hXe : ws.getD j 0 = X at *
          replace hXe := hidden hXe
          have hXl := hx
          clear hbf hst hj hXe hx
          replace hqj := hidden hqj
          replace hjq := hidden hjq
          by_cases hX : X = 0
          · have hXb : ((X : Int) != 0) = false := by simp [hX]
            have hnx : Hid (∀ i, 0 ≤ i → i < 64 * (j + 1) → has ws i = false) := next_on hlow.out fun i hi => by rw [← hbit.out i hi, hX, Nat.zero_testBit]
            clear hX hbit hXl
            go_wp2_with fail
            refine (hw).mono ?_
            rintro e w' ⟨rfl, rfl⟩
            clear hw
            go_wp2
            go_round
            case rel => exact ⟨j + 1, by have := hqj.out; omega, .inl (by omega), by go_num, hnx⟩
            case measure => simp [intOf]; omega
          · have hXb : ((X : Int) != 0) = true := by simp; omega
            have htz := tz_c X w hX hXl hT.out
            have hres := next_yes (m := 0) (j := j) hX hXl rfl hlow.out hbit.out
            have hkl := (low_spec X hX hXl).1
            generalize Lib.ctz 64 X = k at *
            have hk1 : (k : Int) < 64 := by omega
            replace hres := hidden hres
            replace hkl := hidden hkl
            clear hX hbit hXl hlow
            go_wp2_with fail
            refine (hw).mono ?_
            rintro e w' ⟨rfl, rfl⟩
            clear hw
            go_wp2_with fail
            refine htz.mono ?_
            rintro e w' ⟨rfl, rfl⟩
            clear htz
            go_wp2
            go_ret2
            exact ⟨64 * j + k, true, by rw [show (64 * (j : Int) + (k : Int)) = ((64 * j + k : Nat) : Int) by omega]; rfl, hres.out, rfl⟩
    · have hj1 : ¬ (j : Int) < (ws.length : Int) := by omega
      have hfin := hidden (next_end (by omega) hlow.out)
      clear hbf hst hlow
      go_wp2_with fail
      refine (hw).mono ?_
      rintro e w' ⟨rfl, rfl⟩
      clear hw
      go_wp2
      go_ret2
      exact ⟨0, false, rfl, hfin.out, rfl⟩
theorem next_c (b : Nat) (g : Option Nat) (ws : List Nat) (n : Int) (w : World) (hf : Fit ws) (h : SetAt w b g ws) (hn9 : n ≤ 9223372036854775807) (hT : TabAt 0 Lib.deBruijn64tab w) :
    Calls Tryd.prog 11 #[.pointer (some ⟨b, 0, none⟩), .int .i64 n] w (Nexts (has ws) n.toNat w) := by
  by_cases hn : n < 0
  · have := nextM_c b g ws n w hf h hn hT
    rwa [show n.toNat = 0 by omega]
  · obtain ⟨m, rfl⟩ := Int.eq_ofNat_of_zero_le (show 0 ≤ n by omega)
    exact nextP_c b g ws m w hf h (by omega) hT
end Go.Proofs.YtieinedancdokacDoor
