/-
  THE NUMBERS OF A SET, ONE BY ONE, AND AS A LIST: by contract.
-/
import Derived.Test.YtieinedancdokabDoorPB
import Derived.Shelf.Spec.TrailingZeros
import Derived.Laws.Bits128
import Derived.BigQuiet
namespace Go.Proofs.YtieinedancdokabDoor
open Go.ChangeShapes Go.WideShapes Go.ChangeAt Go.RowKit

/-! ### The lowest bit -/
theorem low_spec (x : Nat) (h0 : x ≠ 0) (hx : x < 18446744073709551616) : Lib.ctz 64 x < 64 ∧ x.testBit (Lib.ctz 64 x) = true ∧ (∀ j, j < Lib.ctz 64 x → x.testBit j = false) ∧
    (∀ j, (x &&& (x - 1)).testBit j = (x.testBit j && !(j == Lib.ctz 64 x))) := by
  obtain ⟨m, hm, hk⟩ := Lib.ctzFrom_spec 64 x (by omega) hx
  have hc : Lib.ctz 64 x = Lib.ctzFrom 64 x := by simp [Lib.ctz, h0]
  rw [hc]
  generalize Lib.ctzFrom 64 x = k at *
  clear hc
  have hb : ∀ j, x.testBit j = if j < k then false else (2 * m + 1).testBit (j - k) := fun j => by
    rw [hm, show 2 ^ k * (2 * m + 1) = 2 ^ k * (2 * m + 1) + 0 by omega, Nat.testBit_two_pow_mul_add _ (Nat.two_pow_pos k)]
    simp
  have hp := Nat.two_pow_pos k
  have hs : ∀ j, (x - 1).testBit j = if j < k then (2 ^ k - 1).testBit j else (2 * m).testBit (j - k) := fun j => by
    rw [hm, show 2 ^ k * (2 * m + 1) - 1 = 2 ^ k * (2 * m) + (2 ^ k - 1) by rw [Nat.mul_add]; omega, Nat.testBit_two_pow_mul_add _ (by omega)]
  refine ⟨hk, ?_, fun j hj => ?_, fun j => ?_⟩
  · rw [hb, if_neg (by omega)]; simp
  · rw [hb, if_pos hj]
  · rw [Nat.testBit_and, hb, hs]
    by_cases h1 : j < k
    · simp [h1]
    · rw [if_neg h1, if_neg h1]
      by_cases h2 : j = k
      · subst h2; simp
      · have h3 : (j == k) = false := by simpa using h2
        obtain ⟨d, hd⟩ : ∃ d, j - k = d + 1 := ⟨j - k - 1, by omega⟩
        rw [hd, h3]
        have e1 : (2 * m + 1).testBit (d + 1) = m.testBit d := by rw [Nat.testBit_succ]; congr 1; omega
        have e2 : (2 * m).testBit (d + 1) = m.testBit d := by rw [Nat.testBit_succ]; congr 1; omega
        rw [e1, e2]; simp
/-- The bits of a word, rising. -/
def bitsL (x : Nat) : List Nat := (List.range 64).filter (x.testBit ·)
theorem filter_least (p q : Nat → Bool) (n k : Nat) (hk : k < n) (h1 : p k = true) (h2 : ∀ j, j < k → p j = false) (h3 : ∀ j, q j = (p j && !(j == k))) : (List.range n).filter p = k :: (List.range n).filter q := by
  have hr : List.range n = List.range k ++ k :: (List.range' (k + 1) (n - k - 1)) := by
    rw [List.range_eq_range', List.range_eq_range']
    rw [show n = k + (1 + (n - k - 1)) by omega, ← List.range'_append_1, Nat.zero_add, ← List.range'_append_1 (m := 1)]
    simp
  rw [hr, List.filter_append, List.filter_append]
  have a : (List.range k).filter p = [] := List.filter_eq_nil_iff.2 fun j hj => by simp [h2 j (List.mem_range.1 hj)]
  have b : (List.range k).filter q = [] := List.filter_eq_nil_iff.2 fun j hj => by simp [h3, h2 j (List.mem_range.1 hj)]
  rw [a, b, List.filter_cons, List.filter_cons, h1, h3 k]
  simp only [List.nil_append, if_true, beq_self_eq_true, Bool.not_true, Bool.and_false, Bool.false_eq_true, if_false]
  congr 1
  apply List.filter_congr
  intro j hj
  rw [h3]
  have : (j == k) = false := by
    simp only [List.mem_range'_1] at hj
    simp; omega
  simp [this]
theorem bitsL_cons (x : Nat) (h0 : x ≠ 0) (hx : x < 18446744073709551616) : bitsL x = Lib.ctz 64 x :: bitsL (x &&& (x - 1)) := by
  obtain ⟨h1, h2, h3, h4⟩ := low_spec x h0 hx
  exact filter_least _ _ 64 _ h1 h2 h3 h4
theorem bitsL_zero : bitsL 0 = [] := by
  apply List.filter_eq_nil_iff.2
  intro j _
  simp
theorem bitsL_len (x : Nat) : (bitsL x).length ≤ 64 := by
  have := List.length_filter_le (x.testBit ·) (List.range 64)
  simpa [bitsL] using this

/-! ### math/bits -/
set_option maxHeartbeats 800000 in
theorem tz_core (x k idx : Nat) (w : World) (hx0 : ((x : Int) == 0) = false)
    (key : IntKind.u64.wrap (bits BinOp.and IntKind.u64 (x : Int) (IntKind.u64.wrap (-(x : Int))) * 285870213051353865) / 288230376151711744 = (idx : Int))
    (hi : idx < 64) (hk : k < 64) (hcell : w.cell? ⟨0, idx, none⟩ = some (.int .u8 k)) :
    Calls Tryd.prog 25 #[.int .u64 x] w fun e w' => e = .returned (.int .i64 k) ∧ w' = w := by
  go_enter Tryd.func25, Tryd.ntmps25
  go_wp2_with (simp only [key])
  go_ret
  exact ⟨rfl, rfl⟩
theorem tz_c (x : Nat) (w : World) (h0 : x ≠ 0) (hx : x < 18446744073709551616) (hT : TabAt 0 Lib.deBruijn64tab w) :
    Calls Tryd.prog 25 #[.int .u64 x] w fun e w' => e = .returned (.int .i64 (Lib.ctz 64 x : Nat)) ∧ w' = w := by
  obtain ⟨hlow, hk⟩ := Lib.lowest_bit 64 x h0 hx
  obtain ⟨hi, htab⟩ := Lib.deBruijn64_at _ hk
  have hcell := hT _ hi
  rw [htab] at hcell
  exact tz_core x _ _ w (by simp; omega) (tz64_key x _ hx h0 hlow) hi hk hcell
set_option maxHeartbeats 800000 in
theorem ones_c (x : Int) (w : World) : Calls Tryd.prog 41 #[.int .u64 x] w fun e w' => (∃ c : Nat, c < 128 ∧ e = .returned (.int .i64 c)) ∧ w' = w := by
  have h127 := i64_and127
  have hm : ∀ n : Int, ∃ c : Nat, c < 128 ∧ Ending.returned (.int .i64 (n % 128)) = Ending.returned (.int .i64 c) := fun n => ⟨(n % 128).toNat, by omega, by rw [Int.toNat_of_nonneg (by omega)]⟩
  have hm := hidden hm
  go_enter Tryd.func41, Tryd.ntmps41
  go_wp2
  go_ret
  exact ⟨hm.out _, rfl⟩
set_option maxHeartbeats 800000 in
theorem count_c (x : Int) (w : World) : Calls Tryd.prog 28 #[.int .u64 x] w fun e w' => (∃ c : Nat, c < 128 ∧ e = .returned (.int .i64 c)) ∧ w' = w := by
  have ho := ones_c x w
  go_enter Tryd.func28, Tryd.ntmps28
  go_wp2_with fail
  refine ho.mono ?_
  rintro e w' ⟨⟨c, hc, rfl⟩, rfl⟩
  clear ho
  go_wp2
  go_ret
  exact ⟨⟨c, hc, rfl⟩, rfl⟩
set_option maxHeartbeats 800000 in
theorem len_c (b : Nat) (g : Option Nat) (ws : List Nat) (w : World) (hf : Fit ws) (h : SetAt w b g ws) : Calls Tryd.prog 11 #[.pointer (some ⟨b, 0, none⟩)] w fun e w' =>
    (∃ c : Nat, c ≤ 131072 ∧ e = .returned (.int .i64 c)) ∧ w' = w := by
  have hw := wide_c b g ws w h
  have hc := fun x w => count_c x w
  have c0 := h.cell0
  have hlen := hf.short
  have h := hidden h
  go_enter Tryd.func11, Tryd.ntmps11
  go_wp2_with fail
  refine hw.mono ?_
  rintro e w' ⟨rfl, rfl⟩
  clear hw
  go_wp2_with fail
  go_loop [3, 7] (fun u i => ∃ j c : Nat, j ≤ ws.length ∧ c ≤ 128 * j ∧ u = .int .i64 c ∧ i = .int .i64 j) (fun _ i => ws.length - (intOf i).toNat)
  case atStart => exact ⟨0, 0, Nat.zero_le _, Nat.zero_le _, rfl, rfl⟩
  case round =>
    obtain ⟨j, c, hj, hcj, rfl, rfl⟩ := hrel
    by_cases hlt : j < ws.length
    · have hj1 : (j : Int) < (ws.length : Int) := by omega
      cases g with
      | none => have hn := h.out.empty rfl; subst hn; simp at hlt
      | some g =>
        simp only [rowV] at c0
        have c1 := h.out.cell j hlt
        generalize ws.getD j 0 = x at *
        go_wp2_with fail
        refine (hc _ _).mono ?_
        rintro e w' ⟨⟨d, hd, rfl⟩, rfl⟩
        have e4 : wrap64 ((c : Int) + (d : Int)) = ((c + d : Nat) : Int) := by rw [IntWalk.wrap64_in] <;> omega
        clear hc
        go_wp2
        go_round
        case rel => exact ⟨j + 1, c + d, by omega, by omega, rfl, by go_num⟩
        case measure => simp [intOf]; omega
    · have hj1 : ¬ (j : Int) < (ws.length : Int) := by omega
      clear hc
      go_wp2
      go_ret
      exact ⟨⟨c, by omega, rfl⟩, rfl⟩

/-- A variable that holds a row of its own. -/
structure Told (B : Nat) (w : World) (c : Nat) (xs : List Nat) : Prop where
  bc : B ≤ c
  cell : ∃ u, w.heap[c]? = some (.cells #[u] 22) ∧ w.ownsRow B 3 1 u xs.length (xs.map fun (x : Nat) => Value.int .i64 (x : Int))
theorem heap_set {x : World} {b : Nat} {cs : Array Value} {t : TypeId} (h : x.heap[b]? = some (.cells cs t)) (j : Nat) (v : Value) : (x.setCell ⟨b, j, none⟩ v).heap[b]? = some (.cells (cs.setIfInBounds j v) t) := by
  simp [World.setCell, Array.getElem?_modify, h]
theorem infoI : (Tryd.prog.info? 3).map (fun i => (i.zero, i.size, i.bytes)) = some (some (.int .i64 0), 1, 8) := by kernel_rfl
theorem owns_below {w w' : World} {base : Nat} {e : TypeId} {size : Nat} {v : Value} {n : Nat} {xs : List Value} (h : w.ownsRow base e size v n xs) (hB : Below w.heap.size w w') : w'.ownsRow base e size v n xs := by
  obtain ⟨hl, h⟩ := h
  refine ⟨hl, ?_⟩
  rcases h with h | ⟨g, cap, cur, e1, hg, hcell, r⟩
  · exact .inl h
  · exact .inr ⟨g, cap, cur, e1, hg, (hB.block g (Array.getElem?_eq_some_iff.1 hcell).1).trans hcell, r⟩
set_option maxHeartbeats 800000 in
theorem tell_c (B c z : Nat) (xs : List Nat) (w : World) (h : Told B w c xs) (hl : xs.length ≤ 100000) : Calls Tryd.prog 30 #[.int .i64 z, .pointer (some ⟨c, 0, none⟩)] w fun e w' =>
    e = .returned (.tuple #[]) ∧ Told B w' c (xs ++ [z]) ∧ Below B w w' := by
  obtain ⟨i0, hi, hz0, hz1, hz2⟩ := info_parts infoI
  obtain ⟨hBc, u, hu, hown⟩ := h
  have c0 : w.cell? ⟨c, 0, none⟩ = some u := by simp [World.cell?, hu]
  have hcl : c < w.heap.size := (Array.getElem?_eq_some_iff.1 hu).1
  have hne : u.ownBlock ≠ some c := fun e => by
    rcases hown.2 with ⟨rfl, _⟩ | ⟨g, cap, cur, rfl, _, hg, _⟩
    · simp [Value.ownBlock] at e
    · simp [Value.ownBlock] at e
      subst e
      rw [hu] at hg
      simp at hg
  go_enter Tryd.func30, Tryd.ntmps30
  go_wp2_with (at_builtin; refine wpList_append_own _ rfl _ _ 22 rfl B 3 i0 (.int .i64 0) 1 8 Tryd.underlying22 hi hz0 hz1 hz2 rfl (by decide) _ _ _ rfl (hown.alloc _) ⟨w.heap.size, 0, none⟩ 1 1 [.int .i64 z] rfl rfl (cell_one_new _ _ _) ?c2 ?c3 ?c4 ?c5 ?_)
  case c2 => intro u hu; simp at hu; subst hu; rfl
  case c3 => unfold maxLen; omega
  case c4 => omega
  case c5 => simp; omega
  intro v' w1 hown' hgrow _
  have hu1 : w1.heap[c]? = some (.cells #[u] 22) := (hgrow.block c (by simp; omega) (fun e => hne e.symm)).trans ((heap_alloc_old _ _ hcl).trans hu)
  have d0 : w1.cell? ⟨c, 0, none⟩ = some u := by simp [World.cell?, hu1]
  have d1 : w1.frozen? ⟨c, 0, none⟩ = false := by simp [World.frozen?, hu1]
  have hB : Below B w w1 := (((Below.refl B w).alloc (by omega) _)).grown hgrow (by simp; omega) (fun j hj => (hown.lt j hj).1)
  obtain ⟨g, cap, rfl⟩ : ∃ g cap, v' = .slice (some ⟨g, 0, none⟩) (xs.length + 1) cap := by
    rcases hown'.2 with ⟨_, h0⟩ | ⟨g, cap, cur, e, _⟩
    · omega
    · exact ⟨g, cap, e⟩
  have hT : Told B (w1.setCell ⟨c, 0, none⟩ (.slice (some ⟨g, 0, none⟩) (xs.length + 1) cap)) c (xs ++ [z]) := by
    have hgc : (Value.slice (some ⟨g, 0, none⟩) (xs.length + 1) cap).ownBlock ≠ some c := fun e => by
      rcases hown'.2 with ⟨h1, _⟩ | ⟨g2, cap2, cur, e2, _, hg, _⟩
      · cases h1
      · simp [Value.ownBlock] at e
        subst e
        cases e2
        rw [hu1] at hg
        simp at hg
    refine ⟨hBc, .slice (some ⟨g, 0, none⟩) (xs.length + 1) cap, ?_, ?_⟩
    · have := heap_set hu1 0 (.slice (some ⟨g, 0, none⟩) (xs.length + 1) cap)
      simpa using this
    · have hk : w1.grownBy (w1.setCell ⟨c, 0, none⟩ (.slice (some ⟨g, 0, none⟩) (xs.length + 1) cap)) (some c) := ⟨rfl, rfl, rfl, by simp [World.setCell], fun k _ hk => by
        simp only [World.setCell, Array.getElem?_modify]
        rw [if_neg (fun e => hk (by simp [e]))]⟩
      have := hown'.kept hk (.inr hgc)
      simpa using this
  have hB2 : Below B w (w1.setCell ⟨c, 0, none⟩ (.slice (some ⟨g, 0, none⟩) (xs.length + 1) cap)) := hB.setCell hBc _
  clear c0 hi hz0 hz1 hz2 hu hu1 hown hown' hne hgrow hB
  have hT := hidden hT
  have hB2 := hidden hB2
  go_wp2
  go_end0
  exact ⟨rfl, hT.out, hB2.out⟩
/-- All bits of the first words. -/
def told (ws : List Nat) : Nat → List Nat
  | 0 => []
  | i + 1 => told ws i ++ (bitsL (ws.getD i 0)).map (64 * i + ·)
theorem told_len (ws : List Nat) : ∀ i, (told ws i).length ≤ 64 * i
  | 0 => Nat.le_refl _
  | i + 1 => by
    have h1 := told_len ws i
    have h2 := bitsL_len (ws.getD i 0)
    simp only [told, List.length_append, List.length_map]; omega
theorem Told.below {B c : Nat} {w w' : World} {xs : List Nat} (h : Told B w c xs) (hB : Below w.heap.size w w') : Told B w' c xs := by
  obtain ⟨h1, u, h2, h3⟩ := h
  exact ⟨h1, u, (hB.block c (Array.getElem?_eq_some_iff.1 h2).1).trans h2, owns_below h3 hB⟩
theorem SetAt.belowB {w w' : World} {b B : Nat} {g : Option Nat} {ws : List Nat} (h : SetAt w b g ws) (hB : Below B w w') (hb : b < B) (hg : ∀ x, g = some x → x < B) : SetAt w' b g ws :=
  ⟨(hB.block b hb).trans h.head, h.empty, fun x hx => (hB.block x (hg x hx)).trans (h.row x hx)⟩
theorem tab_below {w w' : World} {g B : Nat} {tab : List Nat} (h : TabAt g tab w) (hB : Below B w w') (hg : g < B) : TabAt g tab w' := fun j hj => (hB.cell (p := ⟨g, j, none⟩) hg).trans (h j hj)

set_option maxHeartbeats 1600000 in
theorem each_c (B b c : Nat) (g : Option Nat) (ws : List Nat) (w : World) (hf : Fit ws) (h : SetAt w b g ws) (hb : b < B) (hg : ∀ x, g = some x → x < B) (hT : TabAt 0 Lib.deBruijn64tab w) (hB0 : 0 < B) (ht : Told B w c []) :
    Calls Tryd.prog 29 #[.pointer (some ⟨b, 0, none⟩), .func (.func 30) #[] #[.pointer (some ⟨c, 0, none⟩)]] w fun e w' =>
      e = .returned (.tuple #[]) ∧ Told B w' c (told ws ws.length) ∧ Below B w w' := by
  have hw := wide_c b g ws w h
  have hlen := hf.short
  have hrs : ∀ i, told ws (i + 1) = told ws i ++ (bitsL (ws.getD i 0)).map (64 * i + ·) := fun i => rfl
  have hrs := hidden hrs
  have htl := hidden fun i => told_len ws i
  have h := hidden h
  have hf := hidden hf
  have hT := hidden hT
  have ht := hidden ht
  have hg := hidden hg
  have ht0 : Hid (told ws 0 = []) := (rfl : _ = _)
  generalize hql : told ws = ql at *
  go_enter Tryd.func29, Tryd.ntmps29
  go_wp2_with fail
  refine hw.mono ?_
  rintro e w' ⟨rfl, rfl⟩
  clear hw
  go_wp2_with fail
  go_loopw [8] (fun i wr => ∃ j : Nat, j ≤ ws.length ∧ i = .int .i64 j ∧ Hid (Told B wr c (ql j)) ∧ Hid (Below B w' wr)) (fun i _ => ws.length - (intOf i).toNat)
  case atStart => exact ⟨0, Nat.zero_le _, rfl, by rw [ht0.out]; exact ht, Below.refl _ _⟩
  case round =>
    obtain ⟨j, hj, rfl, hTo, hBl⟩ := hrel
    by_cases hlt : j < ws.length
    · have hj1 : (j : Int) < (ws.length : Int) := by omega
      have h2 := h.out.belowB hBl.out hb hg.out
      cases g with
      | none => have hn := h.out.empty rfl; subst hn; simp at hlt
      | some g =>
        have c0 := h2.cell0
        simp only [rowV] at c0
        have c1 := h2.cell j hlt
        have hx0 := hf.out.at j
        have hstep := hrs.out j
        generalize ws.getD j 0 = x0 at *
        replace hstep := hidden hstep
        clear h2
        obtain ⟨wo, hwo⟩ : ∃ wo, wo = wr := ⟨_, rfl⟩
        have hTo0 : Hid (Told B wr c (ql j ++ [])) := by rw [List.append_nil]; exact hTo
        have e1 : wrap64 (64 * (j : Int)) = 64 * (j : Int) := IntWalk.wrap64_in _ (by omega)
        have htlj := htl.out j
        have hb0 := bitsL_len x0
        go_wp2_with fail
        go_loopw [5] (fun u wr => ∃ (x : Nat) (pre : List Nat), u = .int .u64 (x : Int) ∧ x < 18446744073709551616 ∧ Hid (Told B wr c (ql j ++ pre)) ∧ Hid (pre ++ (bitsL x).map (64 * j + ·) = (bitsL x0).map (64 * j + ·)) ∧ Hid (Below B w' wr))
          (fun u _ => (intOf u).toNat)
        case atStart => exact ⟨x0, [], rfl, hx0, hTo0, (rfl : _ = _), hBl⟩
        case round =>
          clear c0 c1 hTo hTo0 hBl hwo
          obtain ⟨x, pre, rfl, hx, hTo, hpre, hBl⟩ := hrel
          by_cases hx1 : x = 0
          · subst hx1
            have hnext : Hid (Told B wr c (ql (j + 1))) := by
              have e := hpre.out
              rw [bitsL_zero, List.map_nil, List.append_nil] at e
              rw [hstep.out, ← e]; exact hTo.out
            clear hpre hTo
            go_wp2
            go_roundw
            case rel => exact ⟨j + 1, by omega, by go_num, hnext, hBl⟩
            case measure => simp [intOf]; omega
          · have hxb : ((x : Int) == 0) = false := by simp; omega
            have hcons := bitsL_cons x hx1 hx
            obtain ⟨hk, -, -, -⟩ := low_spec x hx1 hx
            have htz := tz_c x wr hx1 hx (tab_below hT.out hBl.out hB0)
            have hand := u64_and_nat x (x - 1) hx (by omega)
            have hsub : IntKind.u64.wrap ((x : Int) - 1) = ((x - 1 : Nat) : Int) := by rw [IntWalk.u64_in] <;> omega
            have hle : x &&& (x - 1) < x := Nat.lt_of_le_of_lt Nat.and_le_right (by omega)
            rw [hcons] at hpre
            generalize Lib.ctz 64 x = k at *
            generalize x &&& (x - 1) = x2 at *
            generalize x - 1 = x1 at *
            have e2 : 64 * (j : Int) + (k : Int) = ((64 * j + k : Nat) : Int) := by omega
            have e3 : wrap64 ((64 * j + k : Nat) : Int) = ((64 * j + k : Nat) : Int) := IntWalk.wrap64_in _ (by omega)
            have hpl : (ql j ++ pre).length ≤ 100000 := by
              have := congrArg List.length hpre.out
              simp only [List.length_append, List.length_map, List.length_cons] at this ⊢
              omega
            have htell := tell_c B c (64 * j + k) _ wr hTo.out hpl
            have hpre2 : Hid ((pre ++ [64 * j + k]) ++ (bitsL x2).map (64 * j + ·) = (bitsL x0).map (64 * j + ·)) := by
              show _ = _
              have e := hpre.out
              rw [List.map_cons] at e
              rw [← e]; simp
            generalize 64 * j + k = z at *
            have hsz := hBl.out.size
            clear hpre hcons hpl hTo
            go_wp2_with fail
            refine htz.mono ?_
            rintro e wr ⟨rfl, rfl⟩
            clear htz
            have hx2 := hidden (Nat.lt_trans hle hx)
            replace hle := hidden hle
            have hlen' := hidden hlen
            clear hsz htlj hb0 hx hk
            go_wp2_with fail
            refine htell.mono ?_
            rintro e w3 ⟨rfl, hT3, hB3⟩
            replace hT3 : Hid (Told B w3 c (ql j ++ (pre ++ [z]))) := by show Told _ _ _ _; rw [← List.append_assoc]; exact hT3
            replace hB3 : Hid (Below B w' w3) := hBl.out.trans hB3
            clear htell hBl
            go_wp2
            go_roundw
            case rel => exact ⟨x2, pre ++ [z], by first | rfl | go_num, hx2.out, hT3, hpre2, hB3⟩
            case measure =>
              have := hle.out
              simp [intOf]; omega
    · have hj1 : ¬ (j : Int) < (ws.length : Int) := by omega
      obtain rfl : j = ws.length := by omega
      go_wp2
      go_end0
      exact ⟨rfl, hTo.out, hBl.out⟩

def ints (xs : List Nat) : List Value := xs.map fun (x : Nat) => Value.int .i64 (x : Int)
set_option maxHeartbeats 1600000 in
theorem list_c (b : Nat) (g : Option Nat) (ws : List Nat) (w : World) (hf : Fit ws) (h : SetAt w b g ws) (hT : TabAt 0 Lib.deBruijn64tab w) :
    Calls Tryd.prog 12 #[.pointer (some ⟨b, 0, none⟩)] w fun e w' => ∃ v, e = .returned v ∧ Holds w' v (ints (told ws ws.length)) ∧ Below w.heap.size w w' := by
  obtain ⟨i0, hi, hz0, hz1, hz2⟩ := info_parts infoI
  have hl := len_c b g ws w hf h
  have hb := h.lt
  have hg : ∀ x, g = some x → x < w.heap.size := fun x hx => by subst hx; exact h.glt
  have hmk : ∀ (c : Nat) (w : World), c ≤ 131072 → (Instr.makeSlice 22 (.int .i64 0) (.int .i64 (c : Int))).run Tryd.prog w = .ok (.slice (some ⟨w.heap.size, 0, none⟩) 0 c) (w.alloc (.cells (madeCells (Value.int .i64 0).cells (c * 1)) 3)) := fun c w hc => by
    rw [run_makeSlice w 22 3 i0 (.int .i64 0) Tryd.underlying22 hi hz0 .i64 .i64 0 c (by omega) (by omega) (by rw [hz1]; simp; omega) (by rw [hz2]; omega) (by omega)]
    rw [hz1]; simp
  have h := hidden h
  have hf := hidden hf
  have hT := hidden hT
  go_enter Tryd.func12, Tryd.ntmps12
  go_wp2_with fail
  refine hl.mono ?_
  rintro e w' ⟨⟨c, hc, rfl⟩, rfl⟩
  replace hmk := fun w => hmk c w hc
  clear hl
  go_wp2_with fail
  have hB1 : Below w'.heap.size w' ((w'.alloc (.cells (madeCells #[.int .i64 0] c) 3)).alloc (.cells #[.slice (some ⟨w'.heap.size, 0, none⟩) 0 c] 22)) :=
    ((Below.refl _ _).alloc (Nat.le_refl _) _).alloc (by show _ ≤ (w'.heap.push _).size; simp) _
  have ht : Told w'.heap.size ((w'.alloc (.cells (madeCells #[.int .i64 0] c) 3)).alloc (.cells #[.slice (some ⟨w'.heap.size, 0, none⟩) 0 c] 22)) (w'.heap.size + 1) [] :=
    ⟨by omega, _, heap_alloc2_new _ _ _, (World.ownsRow_made w' _ c (Nat.le_refl _) (by unfold maxLen; omega) (by have := size_madeCells #[Value.int .i64 0] c; rw [Nat.mul_one]; exact this)).alloc _⟩
  have h0 : 0 < w'.heap.size := World.block_lt_of_cell? _ _ (hT.out 0 (by decide))
  have he := each_c w'.heap.size b (w'.heap.size + 1) g ws _ hf.out (h.out.below hB1) hb hg (tab_below hT.out hB1 h0) h0 ht
  generalize (w'.alloc (.cells (madeCells #[.int .i64 0] c) 3)).alloc (.cells #[.slice (some ⟨w'.heap.size, 0, none⟩) 0 c] 22) = w2 at *
  clear ht
  refine he.mono ?_
  rintro e w3 ⟨rfl, hT3, hB3⟩
  clear he hmk hi hz0 hz1 hz2
  obtain ⟨-, u, hu, hown⟩ := hT3
  have c0 : w3.cell? ⟨w'.heap.size + 1, 0, none⟩ = some u := by simp [World.cell?, hu]
  have hfin := hidden (holds_of_owns hown)
  have hfb := hidden (hB1.trans hB3)
  clear hown hB1 hB3 hu
  go_wp2
  go_ret
  exact ⟨u, rfl, hfin.out, hfb.out⟩
end Go.Proofs.YtieinedancdokabDoor
/-
  RISING LISTS AS THE NUMBERS OF WHICH SOMETHING HOLDS: mathematics alone.
-/
namespace Go.Proofs.YtieinedancdokabDoor
open Go.ChangeShapes Go.WideShapes Go.ChangeAt Go.RowKit

def L (p : Nat → Bool) : List Nat := (List.range 65536).filter p
def lowL (p : Nat → Bool) (m : Nat) : List Nat := (List.range m).filter p
def highL (p : Nat → Bool) (m : Nat) : List Nat := (List.range' (m + 1) (65536 - m - 1)).filter p
theorem range_split (N m : Nat) (hm : m < N) : List.range N = List.range m ++ m :: (List.range' (m + 1) (N - m - 1)) := by
  rw [List.range_eq_range', List.range_eq_range']
  conv => lhs; rw [show N = m + (1 + (N - m - 1)) by omega, ← List.range'_append_1, Nat.zero_add, ← List.range'_append_1 (m := 1)]
  simp
theorem L_split (p : Nat → Bool) (m : Nat) (hm : m < 65536) : L p = lowL p m ++ ((if p m then [m] else []) ++ highL p m) := by
  unfold L lowL highL
  generalize 65536 = N at *
  rw [range_split N m hm, List.filter_append, List.filter_cons]
  congr 1
  cases p m <;> rfl
theorem mem_L {p : Nat → Bool} {k : Nat} : k ∈ L p ↔ k < 65536 ∧ p k = true := by simp [L]
theorem L_congr {p q : Nat → Bool} (h : ∀ k, p k = q k) : L p = L q := by
  have : p = q := funext h
  rw [this]
theorem L_len (p : Nat → Bool) : (L p).length ≤ 65536 := by
  have := List.length_filter_le p (List.range 65536)
  simpa [L] using this
theorem low_congr {p q : Nat → Bool} {m : Nat} (h : ∀ k, k ≠ m → p k = q k) : lowL p m = lowL q m := List.filter_congr fun k hk => h k (by have := List.mem_range.1 hk; omega)
theorem high_congr {p q : Nat → Bool} {m : Nat} (h : ∀ k, k ≠ m → p k = q k) : highL p m = highL q m := List.filter_congr fun k hk => h k (by have := List.mem_range'_1.1 hk; omega)
/-- What is said of the place of a number in a list. -/
structure Place (xs : List Nat) (n : Int) (j : Nat) : Prop where
  le : j ≤ xs.length
  low : ∀ i, i < j → ((xs.getD i 0 : Nat) : Int) < n
  high : j < xs.length → n ≤ ((xs.getD j 0 : Nat) : Int)
theorem place_at {A D : List Nat} {m j : Nat} (hA : ∀ a ∈ A, a < m) (hD : ∀ d ∈ D, m ≤ d) (h : Place (A ++ D) m j) : j = A.length := by
  have hle := h.le
  rw [List.length_append] at hle
  rcases Nat.lt_trichotomy j A.length with h1 | h1 | h1
  · have h2 := h.high (by rw [List.length_append]; omega)
    have e : (A ++ D).getD j 0 = A[j] := by rw [List.getD_eq_getElem?_getD, List.getElem?_append_left h1, List.getElem?_eq_getElem h1]; rfl
    rw [e] at h2
    have := hA _ (List.getElem_mem h1)
    omega
  · exact h1
  · have h2 := h.low A.length h1
    have hd : 0 < D.length := by omega
    have e : (A ++ D).getD A.length 0 = D[0] := by rw [List.getD_eq_getElem?_getD, List.getElem?_append_right (Nat.le_refl _), Nat.sub_self, List.getElem?_eq_getElem hd]; rfl
    rw [e] at h2
    have := hD _ (List.getElem_mem hd)
    omega
theorem low_lt {p : Nat → Bool} {m : Nat} : ∀ a ∈ lowL p m, a < m := fun a ha => by
  simp only [lowL, List.mem_filter, List.mem_range] at ha; exact ha.1
theorem high_ge {p : Nat → Bool} {m : Nat} : ∀ a ∈ ((if p m then [m] else []) ++ highL p m), m ≤ a := fun a ha => by
  rcases List.mem_append.1 ha with h | h
  · split at h <;> simp at h; omega
  · simp only [highL, List.mem_filter, List.mem_range'_1] at h; omega
/-- Whether a number stands at its place. -/
def isAt (xs : List Nat) (n : Int) (j : Nat) : Bool := decide (j < xs.length) && decide (((xs.getD j 0 : Nat) : Int) = n)
theorem isAt_mem {xs : List Nat} {n : Int} {j : Nat} (h : isAt xs n j = true) : ∃ m : Nat, n = m ∧ m ∈ xs := by
  simp only [isAt, Bool.and_eq_true, decide_eq_true_eq] at h
  obtain ⟨h1, h2⟩ := h
  refine ⟨xs.getD j 0, h2.symm, ?_⟩
  have e : xs.getD j 0 = xs[j] := by simp [h1]
  rw [e]; exact List.getElem_mem h1
theorem isAt_L {p : Nat → Bool} {n : Int} {j : Nat} (h : Place (L p) n j) : isAt (L p) n j = (good n && p n.toNat) := by
  by_cases hg : good n = true
  · simp only [good, Bool.and_eq_true, decide_eq_true_eq] at hg
    obtain ⟨m, rfl⟩ := Int.eq_ofNat_of_zero_le hg.1
    have hm : m < 65536 := by omega
    have hgm : good (m : Int) = true := by simp [good]; omega
    rw [hgm, Bool.true_and, Int.toNat_natCast]
    rw [L_split p m hm] at h ⊢
    have hj := place_at low_lt high_ge h
    cases hp : p m with
    | true =>
      simp [isAt, hj]
    | false =>
      cases hi : isAt (lowL p m ++ ((if false then [m] else []) ++ highL p m)) m j with
      | false => simp
      | true =>
        exfalso
        obtain ⟨m', e, hmem⟩ := isAt_mem hi
        have : m' = m := by omega
        subst this
        rw [show lowL p m' ++ ((if false then [m'] else []) ++ highL p m') = L p by rw [L_split p m' hm, hp]] at hmem
        rw [mem_L, hp] at hmem
        cases hmem.2
  · have hg' : good n = false := by simpa using hg
    rw [hg', Bool.false_and]
    cases hi : isAt (L p) n j with
    | false => rfl
    | true =>
      exfalso
      obtain ⟨m, rfl, hmem⟩ := isAt_mem hi
      have := (mem_L.1 hmem).1
      apply hg; simp [good]; omega
theorem L_put {p : Nat → Bool} {m j : Nat} (hm : m < 65536) (hp : p m = false) (h : Place (L p) m j) : (L p).take j ++ [m] ++ (L p).drop j = L fun k => p k || k == m := by
  have hq : ∀ k, k ≠ m → p k = (p k || k == m) := fun k hk => by simp [hk]
  rw [L_split p m hm, hp] at h ⊢
  simp only [Bool.false_eq_true, if_false, List.nil_append] at h ⊢
  have hj := place_at low_lt (fun d hd => high_ge (p := p) d (by rw [hp]; simpa using hd)) h
  rw [L_split (fun k => p k || k == m) m hm, hj, List.take_left, List.drop_left, ← low_congr hq, ← high_congr hq]
  simp
theorem L_cut {p : Nat → Bool} {m j : Nat} (hm : m < 65536) (hp : p m = true) (h : Place (L p) m j) : (L p).take j ++ (L p).drop (j + 1) = L fun k => p k && !(k == m) := by
  have hq : ∀ k, k ≠ m → p k = (p k && !(k == m)) := fun k hk => by simp [hk]
  rw [L_split p m hm, hp] at h ⊢
  simp only [if_true] at h ⊢
  have hj := place_at low_lt (fun d hd => high_ge (p := p) d (by rw [hp]; simpa using hd)) h
  rw [L_split (fun k => p k && !(k == m)) m hm, hj, List.take_left, ← List.drop_drop, List.drop_left, ← low_congr hq, ← high_congr hq]
  simp
/-! ### The numbers of a set -/
theorem told_eq (ws : List Nat) : ∀ i, told ws i = (List.range (64 * i)).filter (has ws)
  | 0 => rfl
  | i + 1 => by
    rw [told, told_eq ws i, show 64 * (i + 1) = 64 * i + 64 by omega, List.range_add, List.filter_append, List.filter_map]
    congr 1
    rw [bitsL]
    congr 1
    apply List.filter_congr
    intro j hj
    have := List.mem_range.1 hj
    simp only [Function.comp, has]
    rw [show (64 * i + j) / 64 = i by omega, show (64 * i + j) % 64 = j by omega]
theorem told_L (ws : List Nat) (hf : Fit ws) : told ws ws.length = L (has ws) := by
  have h1 := hf.short
  rw [told_eq, L, show 65536 = 64 * ws.length + (65536 - 64 * ws.length) by omega, List.range_add, List.filter_append]
  have : ((List.range (65536 - 64 * ws.length)).map fun x => 64 * ws.length + x).filter (has ws) = [] := List.filter_eq_nil_iff.2 fun k hk => by
    obtain ⟨y, _, rfl⟩ := List.mem_map.1 hk
    rw [has_end (by omega)]; simp
  rw [this, List.append_nil]
end Go.Proofs.YtieinedancdokabDoor
/-
  RISING LISTS, as the reference looks for a number, puts one in, takes one out, and makes one of any numbers: by contract.
-/
namespace Go.Proofs.YtieinedancdokabDoor
open Go.ChangeShapes Go.WideShapes Go.ChangeAt Go.RowKit

theorem ints_len (xs : List Nat) : (ints xs).length = xs.length := by simp [ints]
theorem ints_at (xs : List Nat) (k : Nat) (hk : k < xs.length) : (ints xs)[k]? = some (.int .i64 ((xs.getD k 0 : Nat) : Int)) := by simp [ints, hk]
set_option maxHeartbeats 800000 in
theorem refgood_c (n : Int) (w : World) : Calls Tryd.prog 40 #[.int .i64 n] w fun e w' => e = .returned (.bool (good n)) ∧ w' = w := by
  by_cases h0 : (0 : Int) ≤ n
  · by_cases h1 : n < 65536
    · have hg : good n = true := by simp [good, h0, h1]
      rw [hg]
      go_enter Tryd.func40, Tryd.ntmps40
      go_wp2
      go_ret
      exact ⟨by first | rfl | simp, rfl⟩
    · have hg : good n = false := by simp [good]; omega
      rw [hg]
      go_enter Tryd.func40, Tryd.ntmps40
      go_wp2
      go_ret
      exact ⟨by first | rfl | simp | (simp; omega), rfl⟩
  · have hg : good n = false := by simp [good]; omega
    rw [hg]
    go_enter Tryd.func40, Tryd.ntmps40
    go_wp2
    go_ret
    exact ⟨rfl, rfl⟩
set_option maxHeartbeats 1600000 in
theorem at_c (v : Value) (xs : List Nat) (n : Int) (w : World) (hv : Holds w v (ints xs)) (hl : xs.length ≤ 100000) : Calls Tryd.prog 39 #[v, .int .i64 n] w fun e w' =>
    ∃ j : Nat, e = .returned (.tuple #[.int .i64 (j : Int), .bool (isAt xs n j)]) ∧ Place xs n j ∧ Below w.heap.size w w' := by
  obtain ⟨a, cap, rfl, hrow⟩ := hv
  rw [ints_len]
  go_enter Tryd.func39, Tryd.ntmps39
  go_wp2
  go_loop [6] (fun u => ∃ j : Nat, j ≤ xs.length ∧ u = .int .i64 (j : Int) ∧ Hid (∀ i, i < j → ((xs.getD i 0 : Nat) : Int) < n)) (fun u => xs.length - (intOf u).toNat)
  case atStart => exact ⟨0, Nat.zero_le _, rfl, (fun i hi => absurd hi (Nat.not_lt_zero i) : ∀ i, i < 0 → ((xs.getD i 0 : Nat) : Int) < n)⟩
  case round =>
    obtain ⟨j, hj, rfl, hlow⟩ := hrel
    by_cases hlt : j < xs.length
    · rcases hrow with h0 | ⟨b, off, rfl, hb, hc⟩
      · have := congrArg List.length h0
        rw [ints_len] at this; simp only [List.length_nil] at this; omega
      have hcx : w.cell? ⟨b, off + j, none⟩ = some (.int .i64 ((xs.getD j 0 : Nat) : Int)) := hc j _ (ints_at xs j hlt)
      have hcd : w.drew.cell? ⟨b, off + j, none⟩ = some (.int .i64 ((xs.getD j 0 : Nat) : Int)) := hcx
      have hj1 : (j : Int) < (xs.length : Int) := by omega
      have hpl : ∀ h : n ≤ ((xs.getD j 0 : Nat) : Int), Place xs n j := fun h => ⟨hj, hlow.out, fun _ => h⟩
      have hia : isAt xs n j = decide (((xs.getD j 0 : Nat) : Int) = n) := by simp [isAt, hlt]
      have hnx : (((xs.getD j 0 : Nat) : Int) < n) → Hid (∀ i, i < j + 1 → ((xs.getD i 0 : Nat) : Int) < n) := fun h i hi => by
        rcases Nat.lt_or_ge i j with h1 | h1
        · exact hlow.out i h1
        · obtain rfl : i = j := by omega
          exact h
      clear hc hlow
      generalize ((xs.getD j 0 : Nat) : Int) = x at *
      by_cases hx : x < n
      · have hnx := hnx hx
        clear hpl hia hcd
        go_wp2
        go_round
        case rel => exact ⟨j + 1, by omega, by go_num, hnx⟩
        case measure => simp [intOf]; omega
      · have hpl := hidden (hpl (by omega))
        replace hia := hidden hia
        clear hnx
        by_cases hxe : x = n
        · have hd : decide (x = n) = true := by simp [hxe]
          have hia2 := hidden (hia.out.trans hd)
          have hbe : (x == n) = true := by simp [hxe]
          clear hia hd
          go_wp2
          go_quiet (fail)
          go_wp2
          go_ret2
          exact ⟨j, by rw [hia2.out]; rfl, hpl.out, below_drewN (Below.refl _ _) _⟩
        · have hd : decide (x = n) = false := by simp [hxe]
          have hia2 := hidden (hia.out.trans hd)
          have hbe : (x == n) = false := by simp [hxe]
          clear hia hd
          go_wp2
          go_quiet (fail)
          go_wp2
          go_ret2
          exact ⟨j, by rw [hia2.out]; rfl, hpl.out, below_drewN (Below.refl _ _) _⟩
    · have hj1 : ¬ (j : Int) < (xs.length : Int) := by omega
      have hd : decide ((j : Int) < (xs.length : Int)) = false := by simp; omega
      have hpl : Hid (Place xs n j) := ⟨hj, hlow.out, fun h => absurd h hlt⟩
      have hia2 : Hid (isAt xs n j = false) := by show _ = _; simp [isAt, hlt]
      clear hlow hrow
      go_wp2
      go_quiet (fail)
      go_wp2
      go_ret2
      exact ⟨j, by rw [hia2.out]; rfl, hpl.out, below_drewN (Below.refl _ _) _⟩

/-- A list in memory from B on, which is not nil. -/
def SlS (B : Nat) (w : World) (v : Value) (xs : List Nat) : Prop := ∃ g og cap, v = .slice (some ⟨g, og, none⟩) xs.length cap ∧ B ≤ g ∧ Sl w v (ints xs)
theorem SlS.below {B : Nat} {w w' : World} {v : Value} {xs : List Nat} (h : SlS B w v xs) (hb : Below w.heap.size w w') : SlS B w' v xs := by
  obtain ⟨g, og, cap, h1, h0, h2⟩ := h
  exact ⟨g, og, cap, h1, h0, h2.below hb⟩
theorem SlS.holds {B : Nat} {w : World} {v : Value} {xs : List Nat} (h : SlS B w v xs) : Holds w v (ints xs) := by
  obtain ⟨g, og, cap, h1, h0, h2⟩ := h
  exact h2.holds
theorem SlS.save {B : Nat} {S : List Nat} {w w' : World} {v : Value} {xs : List Nat} (h : SlS B w v xs) (hs : Save S w w') (hS : ∀ k ∈ S, k < B) : SlS B w' v xs := by
  obtain ⟨g, og, cap, rfl, h0, a, cap2, h1, h2, h3, h4, h5⟩ := h
  refine ⟨g, og, cap, rfl, h0, a, cap2, h1, h2, h3, h4, ?_⟩
  have hg : g ∉ S := fun hm => by have := hS g hm; omega
  rcases h5 with h5 | ⟨b, off, h6, h7, h8⟩
  · exact .inl h5
  · subst h6
    simp only [Value.slice.injEq, Option.some.injEq, Addr.mk.injEq] at h1
    obtain ⟨⟨rfl, _, _⟩, _⟩ := h1
    refine .inr ⟨g, off, rfl, Nat.lt_of_lt_of_le h7 hs.size, fun j u hj => ?_⟩
    exact (World.cell?_of_block (hs.block g h7 hg)).trans (h8 j u hj)
theorem ints_cells (xs : List Nat) : ∀ u ∈ ints xs, u.oneCell' = true := fun u hu => by
  simp only [ints, List.mem_map] at hu
  obtain ⟨x, _, rfl⟩ := hu
  rfl
theorem slS_of {w : World} {B B' : Nat} {e : TypeId} {v : Value} {n : Nat} {xs : List Nat} (h : w.ownsRow B e 1 v n (ints xs)) (hv : v ≠ .slice none 0 0) (hB : B' ≤ B) : SlS B' w v xs := by
  obtain ⟨g, c, rfl, hg, _⟩ := own_some h hv
  have hl := h.1
  rw [ints_len, Nat.mul_one] at hl
  exact ⟨g, 0, c, by rw [hl], Nat.le_trans hB hg, sl_of_owns h⟩
set_option maxHeartbeats 3200000 in
theorem radd_c (v : Value) (p : Nat → Bool) (n : Int) (B : Nat) (w : World) (hBw : B ≤ w.heap.size) (hv : SlS B w v (L p)) : Calls Tryd.prog 23 #[v, .int .i64 n] w fun e w' =>
    ∃ v', e = .returned v' ∧ SlS B w' v' (L fun k => p k || (good n && k == n.toNat)) ∧ Below w.heap.size w w' := by
  replace hBw := hidden hBw
  obtain ⟨i0, hi, hz0, hz1, hz2⟩ := info_parts infoI
  have hlen := L_len p
  have hat := at_c v (L p) n w hv.holds (by omega)
  have hgd := fun w => refgood_c n w
  by_cases hnew : good n = true ∧ p n.toNat = false
  · obtain ⟨hg, hp⟩ := hnew
    have hg0 := hg
    simp only [good, Bool.and_eq_true, decide_eq_true_eq] at hg
    obtain ⟨m, rfl⟩ := Int.eq_ofNat_of_zero_le hg.1
    simp only [Int.toNat_natCast] at hp ⊢
    rw [hg0] at hgd
    have hia := fun j (h : Place (L p) m j) => (isAt_L h).trans (by rw [hg0, Int.toNat_natCast, hp, Bool.true_and])
    have hput := fun j h => L_put (p := p) (m := m) (j := j) (by omega) hp h
    have heq : (L fun k => p k || (good (m : Int) && k == m)) = L fun k => p k || k == m := L_congr fun k => by rw [hg0]; simp
    rw [heq]
    generalize hq : (L fun k => p k || k == m) = qs at *
    obtain ⟨g, og, cap, rfl, -, hsl⟩ := hv
    clear hg hg0 heq hq
    go_enter Tryd.func23, Tryd.ntmps23
    go_wp2_with fail
    refine hat.mono ?_
    rintro e w1 ⟨j, rfl, hpl, hB⟩
    rw [hia j hpl]
    clear hat
    go_wp2_with fail
    refine (hgd _).mono ?_
    rintro e wr ⟨rfl, rfl⟩
    clear hgd
    have hput := hput j hpl
    have hjl := hpl.le
    clear hpl hia
    have hS1 := (hsl.below hB).to' j hjl
    have hS2 := (hsl.below hB).from' j hjl
    have hnco : j ≤ cap := by
      obtain ⟨_, cap', hcc, hnco, -⟩ := hsl
      rw [ints_len] at hnco
      generalize L p = lp at *
      simp only [Value.slice.injEq] at hcc
      omega
    clear hsl
    have hl1 : ((ints (L p)).take j).length = j := by rw [List.length_take, ints_len]; omega
    have hl2 : ((ints (L p)).drop j).length = (L p).length - j := by rw [List.length_drop, ints_len]
    have hc1 : ∀ u ∈ (ints (L p)).take j, u.oneCell' = true := fun u hu => ints_cells _ u (List.mem_of_mem_take hu)
    have hc2 : ∀ u ∈ (ints (L p)).drop j, u.oneCell' = true := fun u hu => ints_cells _ u (List.mem_of_mem_drop hu)
    have hT : Hid (ints qs = (ints (L p)).take j ++ [(.int .i64 (m : Int))] ++ (ints (L p)).drop j) := by
      show _ = _
      rw [← hput]; simp [ints, List.map_take, List.map_drop]
    generalize (ints (L p)).take j = T1 at *
    generalize (ints (L p)).drop j = T2 at *
    generalize (L p).length = N at *
    clear hput hp
    obtain ⟨wq, hwq⟩ : ∃ wq, wq = wr := ⟨_, rfl⟩
    rw [← hwq] at hS1 hS2 hB ⊢
    clear hwq
    have hjN : (j : Int) ≤ (N : Int) := by omega
    have hjC : (j : Int) ≤ (cap : Int) := by omega
    go_wp2_with fail
    go_region_law (first
      | (refine step_app rfl (.tmp 20) (.tmp 23) 22 rfl wq.heap.size 3 i0 (.int .i64 0) 8 Tryd.underlying22 hi hz0 hz1 hz2 rfl (by simp [Act.eval]) (World.ownsRow_made wq.drew #[] 0 (Nat.le_refl _) (by unfold maxLen; omega) rfl) (by simp [Act.eval]) (hS1.below ((Below.refl wq.heap.size wq).drew.alloc (Nat.le_refl _) _)) hc1 (by rw [hl1]; unfold maxLen; omega) (by rw [hl1]; omega) (by simp <;> omega) ?_; intro v1 w1 hown1 hgrow1 hsm1; have hB1 := ((Below.refl wq.heap.size wq).drew.alloc (Nat.le_refl _) _).grown hgrow1 (by simp <;> omega) (fun j hj => by cases hj; simp))
      | (refine step_app rfl (.tmp 20) (.tmp 23) 22 rfl wq.heap.size 3 i0 (.int .i64 0) 8 Tryd.underlying22 hi hz0 hz1 hz2 rfl (by simp [Act.eval]) ((World.ownsRow_made wq.drew #[] 0 (Nat.le_refl _) (by unfold maxLen; omega) rfl).alloc (.cells #[(.int .i64 (m : Int))] 3)) (by simp [Act.eval]) (hS1.below (((Below.refl wq.heap.size wq).drew.alloc (Nat.le_refl _) _).alloc (by simp) _)) hc1 (by rw [hl1]; unfold maxLen; omega) (by rw [hl1]; omega) (by simp <;> omega) ?_; intro v1 w1 hown1 hgrow1 hsm1; have hB1 := (((Below.refl wq.heap.size wq).drew.alloc (Nat.le_refl _) _).alloc (by simp) _).grown hgrow1 (by simp <;> omega) (fun j hj => by cases hj; simp); have h54 := (Sl.one (wq.drew.alloc (.cells #[] 3)) (.int .i64 (m : Int)) 3).grown hgrow1 (by simp [Value.ownBlock]))
      | (refine step_app rfl (.tmp 20) (.tmp 23) 22 rfl wq.heap.size 3 i0 (.int .i64 0) 8 Tryd.underlying22 hi hz0 hz1 hz2 rfl (by simp [Act.eval]) (World.ownsRow_made (wq.drew.alloc (.cells #[(.int .i64 (m : Int))] 3)) #[] 0 (by simp) (by unfold maxLen; omega) rfl) (by simp [Act.eval]) (hS1.below (((Below.refl wq.heap.size wq).drew.alloc (Nat.le_refl _) _).alloc (by simp) _)) hc1 (by rw [hl1]; unfold maxLen; omega) (by rw [hl1]; omega) (by simp <;> omega) ?_; intro v1 w1 hown1 hgrow1 hsm1; have hB1 := (((Below.refl wq.heap.size wq).drew.alloc (Nat.le_refl _) _).alloc (by simp) _).grown hgrow1 (by simp <;> omega) (fun j hj => by cases hj; simp); have h54 := ((Sl.one wq.drew (.int .i64 (m : Int)) 3).alloc (.cells #[] 3)).grown hgrow1 (by simp [Value.ownBlock]))
      | (refine step_app rfl (.tmp 24) (.tmp 26) 22 rfl wq.heap.size 3 i0 (.int .i64 0) 8 Tryd.underlying22 hi hz0 hz1 hz2 rfl (by simp [Act.eval]) (hown1.alloc _) (by simp [Act.eval]) (Sl.one w1 (.int .i64 (m : Int)) 3) (fun u hu => by simp at hu; subst hu; rfl) (by simp only [hl1, List.length_cons, List.length_nil]; unfold maxLen; omega) (by simp only [hl1, List.length_cons, List.length_nil]; omega) (by first | exact hB1.size | (simp; exact Nat.le_succ_of_le hB1.size)) ?_; intro v2 w2 hown2 hgrow2 hsm2; have hB2 := (hB1.alloc hB1.size _).grown hgrow2 (by first | exact hB1.size | (simp; exact Nat.le_succ_of_le hB1.size)) (fun j hj => (hown1.lt j hj).1))
      | (refine step_app rfl (.tmp 24) (.tmp 26) 22 rfl wq.heap.size 3 i0 (.int .i64 0) 8 Tryd.underlying22 hi hz0 hz1 hz2 rfl (by simp [Act.eval]) hown1 (by simp [Act.eval]) h54 (fun u hu => by simp at hu; subst hu; rfl) (by simp only [hl1, List.length_cons, List.length_nil]; unfold maxLen; omega) (by simp only [hl1, List.length_cons, List.length_nil]; omega) (by first | exact hB1.size | (simp; exact Nat.le_succ_of_le hB1.size)) ?_; intro v2 w2 hown2 hgrow2 hsm2; have hB2 := hB1.grown hgrow2 (by first | exact hB1.size | (simp; exact Nat.le_succ_of_le hB1.size)) (fun j hj => (hown1.lt j hj).1))
      | (refine step_app rfl (.tmp 27) (.tmp 30) 22 rfl wq.heap.size 3 i0 (.int .i64 0) 8 Tryd.underlying22 hi hz0 hz1 hz2 rfl (by simp [Act.eval]) hown2 (by simp [Act.eval]) (hS2.below hB2) hc2 (by simp only [hl1, hl2, List.length_cons, List.length_nil]; unfold maxLen; omega) (by simp only [hl1, hl2, List.length_cons, List.length_nil]; omega) hB2.size ?_; intro v3 w3 hown3 hgrow3 hsm3))
    all_goals
      have hB3 := hB2.grown hgrow3 hB2.size (fun j hj => (hown2.lt j hj).1)
      have hown4 : w3.ownsRow wq.heap.size 3 1 v3 (0 + T1.length + 1 + T2.length) (ints qs) := by rw [hT.out]; exact hown3
      have hne3 : v3 ≠ .slice none 0 0 := fun h => by have := hsm1 (hsm2 (hsm3 h)); cases this
      have hfin := hidden (slS_of (B' := B) hown4 hne3 (Nat.le_trans hBw.out hB.size))
      have hfb := hidden (hB.trans (hB3.mono hB.size))
      clear hown1 hown2 hown3 hown4 hgrow1 hgrow2 hgrow3 hB1 hB2 hB3 hS1 hS2
      go_wp2
      all_goals
        go_ret
        exact ⟨v3, rfl, hfin.out, hfb.out⟩
  · have heq : (L fun k => p k || (good n && k == n.toNat)) = L p := L_congr fun k => by
      by_cases hk : k = n.toNat
      · rw [hk, beq_self_eq_true, Bool.and_true]
        cases h2 : p n.toNat with
        | true => rfl
        | false => cases h1 : good n with
          | true => exact absurd ⟨h1, h2⟩ hnew
          | false => rfl
      · have : (k == n.toNat) = false := by simpa using hk
        rw [this, Bool.and_false, Bool.or_false]
    rw [heq]
    have hia := fun j (h : Place (L p) n j) => isAt_L h
    have hv2 := hv
    obtain ⟨g, og, cap, rfl, -, hsl⟩ := hv
    clear hsl heq hi hz0 hz1 hz2
    generalize L p = lp at *
    cases hg : good n with
    | false =>
      rw [hg] at hgd
      simp only [hg, Bool.false_and] at hia
      clear hnew hg
      go_enter Tryd.func23, Tryd.ntmps23
      go_wp2_with fail
      refine hat.mono ?_
      rintro e w1 ⟨j, rfl, hpl, hB⟩
      rw [hia j hpl]
      clear hat hia hpl
      go_wp2_with fail
      refine (hgd _).mono ?_
      rintro e wr ⟨rfl, rfl⟩
      clear hgd
      go_wp2
      go_ret
      exact ⟨_, rfl, hv2.below hB, hB⟩
    | true =>
      have hp : p n.toNat = true := by
        cases hp : p n.toNat with
        | true => rfl
        | false => exact absurd ⟨hg, hp⟩ hnew
      simp only [hg, hp, Bool.true_and] at hia
      clear hnew hg hp hgd
      go_enter Tryd.func23, Tryd.ntmps23
      go_wp2_with fail
      refine hat.mono ?_
      rintro e w1 ⟨j, rfl, hpl, hB⟩
      rw [hia j hpl]
      clear hat hia hpl
      go_wp2
      go_ret
      exact ⟨_, rfl, hv2.below hB, hB⟩

theorem L_none : L (fun _ => false) = [] := List.filter_eq_nil_iff.2 fun _ _ => by simp
set_option maxHeartbeats 1600000 in
theorem of_c (v : Value) (zs : List Int) (w : World) (hv : Holds w v (zs.map (Value.int .i64))) (hz : zs.length ≤ 1000) : Calls Tryd.prog 6 #[v] w fun e w' =>
    ∃ v', e = .returned v' ∧ SlS w.heap.size w' v' (L (inL zs)) ∧ Below w.heap.size w w' := by
  obtain ⟨a, cap, rfl, hrow⟩ := hv
  simp only [List.length_map]
  obtain ⟨lf, hlf⟩ : ∃ lf : Nat → List Nat, Hid (∀ j, lf j = L (inL (zs.take j))) := ⟨fun j => L (inL (zs.take j)), (fun _ => rfl : ∀ _, _ = _)⟩
  have hfin : Hid (L (inL zs) = lf zs.length) := by show _ = _; rw [hlf.out, List.take_length]
  have hl0 : Hid (lf 0 = []) := by
    show _ = _
    rw [hlf.out, ← L_none]; rfl
  have hadd : Hid (∀ j, j < zs.length → ∀ B u w, B ≤ w.heap.size → SlS B w u (lf j) → Calls Tryd.prog 23 #[u, .int .i64 (zs.getD j 0)] w fun e w' => ∃ v', e = .returned v' ∧ SlS B w' v' (lf (j + 1)) ∧ Below w.heap.size w w') := by
    intro j hj B u w hBw h
    rw [hlf.out] at h
    have := radd_c u (inL (zs.take j)) (zs.getD j 0) B w hBw h
    have e : lf (j + 1) = L fun k => inL (zs.take j) k || (good (zs.getD j 0) && k == (zs.getD j 0).toNat) := by
      rw [hlf.out]
      apply L_congr
      intro k
      rw [take_snocI zs j hj]
      simp [inL]
    rw [e]; exact this
  rw [hfin.out]
  clear hfin hlf
  go_enter Tryd.func6, Tryd.ntmps6
  go_wp2_with fail
  go_loopw [3, 4] (fun u i wr => ∃ j : Nat, j ≤ zs.length ∧ i = .int .i64 (j : Int) ∧ Hid (SlS w.heap.size wr u (lf j)) ∧ Hid (Below w.heap.size w wr)) (fun _ i _ => zs.length - (intOf i).toNat)
  case atStart =>
    refine ⟨0, Nat.zero_le _, rfl, ?_, ((Below.refl _ _).alloc (Nat.le_refl _) _)⟩
    show SlS _ _ _ _
    rw [hl0.out]
    exact ⟨w.heap.size, 0, 0, rfl, Nat.le_refl _, ⟨_, 0, rfl, Nat.le_refl _, (fun e => by cases e), (fun x e => by cases e; rfl), .inl rfl⟩⟩
  case round =>
    obtain ⟨j, hj, rfl, hS, hB⟩ := hrel
    by_cases hlt : j < zs.length
    · have hadd := fun B u w hb h => hadd.out j hlt B u w hb h
      rcases hrow with h0 | ⟨b, off, rfl, hb, hc⟩
      · simp only [List.map_eq_nil_iff] at h0; subst h0; simp at hlt
      have hcx : wr.cell? ⟨b, off + j, none⟩ = some (.int .i64 (zs.getD j 0)) := (hB.out.cell (by exact hb)).trans (hc j _ (by simp [hlt]))
      have hj1 : (j : Int) < (zs.length : Int) := by omega
      clear hc
      generalize zs.getD j 0 = z at *
      have hcall := hadd w.heap.size _ wr hB.out.size hS.out
      clear hadd
      go_wp2_with fail
      refine hcall.mono ?_
      rintro e w2 ⟨v', rfl, hS2, hB2⟩
      replace hS2 := hidden hS2
      replace hB2 : Hid (Below w.heap.size w w2) := hB.out.trans (hB2.mono hB.out.size)
      clear hcall hS hB hcx
      go_wp2
      go_roundw
      case rel => exact ⟨j + 1, by omega, by go_num, hS2, hB2⟩
      case measure => simp [intOf]; omega
    · have hj1 : ¬ (j : Int) < (zs.length : Int) := by omega
      obtain rfl : j = zs.length := by omega
      clear hadd hl0
      go_wp2
      go_ret
      exact ⟨_, rfl, hS.out, hB.out⟩
end Go.Proofs.YtieinedancdokabDoor
