/-
  THE PROGRAM's ORDER OF KEYS, by contract.
-/
import Derived.Test.YtgojieabeaalcaaPass
import Derived.Test.YtgojieabeaalcaaShelf
import Derived.Lib.ItoaNum
namespace Go.Proofs.Ytgojieabeaalcaa
open Go.ChangeShapes Go.WideShapes Go.ChangeAt Go.RowKit

theorem infoI : (Try.prog.info? 3).map (fun i => (i.zero, i.size, i.bytes)) = some (some (.int .i64 0), 1, 8) := by kernel_rfl
theorem own_base {w : World} {B B' : Nat} {e : TypeId} {size g n cap : Nat} {xs : List Value} (h : w.ownsRow B e size (.slice (some ⟨g, 0, none⟩) n cap) n xs) (hb : B' ≤ g) : w.ownsRow B' e size (.slice (some ⟨g, 0, none⟩) n cap) n xs := by
  refine ⟨h.1, ?_⟩
  rcases h.2 with h2 | ⟨g', cap', cur, h1, h2, h3⟩
  · exact .inl h2
  · cases h1
    exact .inr ⟨_, _, cur, rfl, hb, h3⟩
theorem ordered_congr {K K' : Nat → Nat} {n : Nat} {l : List Nat} (h : Ordered K n l) (hk : ∀ p, p < n → K p = K' p) : Ordered K' n l := by
  refine ⟨h.1.imp_of_mem fun {p q} hp hq hpq => ?_, h.2⟩
  have h1 := hk p ((h.2 p).1 hp)
  have h2 := hk q ((h.2 q).1 hq)
  unfold KeyLt at hpq ⊢
  rw [← h1, ← h2]; exact hpq
theorem log_c (u : Nat) (w : World) (hu : u < 18446744073709551616) :
    Calls Try.prog 65 #[.int .u64 (u : Int)] w fun e w' => e = .returned (.int .i64 ((Lib.bitLen u : Int) - 1)) ∧ w' = w := by
  have hb := Lib.bitLen_le u 64 (by decide) hu
  have hlen := fun w => Try.bits_Len64 (u : Int) w (by omega) (by omega)
  rw [show ((u : Int)).toNat = u by omega] at hlen
  generalize Lib.bitLen u = B at *
  go_enter Try.func65, Try.ntmps65
  go_wp2_with (first | (go_at_call 77; refine (hlen _).mono ?_; rintro e w' ⟨rfl, rfl⟩) | go_in)
  go_ret
  exact ⟨rfl, rfl⟩
/-- Places laid so far. -/
def laidTo (n k : Nat) : List Value := (List.range n).map fun j => .int .i64 (if j < k then (j : Int) else 0)
theorem laidTo_len (n k : Nat) : (laidTo n k).length = n := by simp [laidTo]
theorem laidTo_zero (n : Nat) : laidTo n 0 = List.replicate n (.int .i64 0) := by
  apply List.ext_getElem?
  intro j
  by_cases hj : j < n
  · simp [laidTo, hj]
  · rw [List.getElem?_eq_none (by rw [laidTo_len]; omega), List.getElem?_eq_none (by simp; omega)]
theorem laidTo_set (n k : Nat) (hk : k < n) : (laidTo n k).set k (.int .i64 (k : Int)) = laidTo n (k + 1) := by
  apply List.ext_getElem?
  intro j
  rw [List.getElem?_set, laidTo_len]
  by_cases hj : j < n
  · simp only [laidTo, List.getElem?_map, List.getElem?_range hj, Option.map_some]
    by_cases h0 : k = j
    · subst h0; simp [hk]
    · rw [if_neg h0]
      by_cases h1 : j < k
      · simp [h1, show j < k + 1 by omega]
      · simp [h1, show ¬ j < k + 1 by omega]
  · rw [List.getElem?_eq_none (l := laidTo n k) (by rw [laidTo_len]; omega), List.getElem?_eq_none (l := laidTo n (k + 1)) (by rw [laidTo_len]; omega)]
    split
    · exfalso; omega
    · rfl
theorem laidTo_all (n : Nat) : laidTo n n = natsV (List.range n) := by
  unfold laidTo natsV
  apply List.map_congr_left
  intro j hj
  rw [if_pos (List.mem_range.1 hj)]
theorem bitLen_bound {x : Nat} (hx : x < 18446744073709551616) : x < 2 ^ Lib.bitLen x := by
  by_cases h : x = 0
  · subst h; exact Nat.two_pow_pos _
  · exact (Lib.bitLenAux_bounds 64 x hx h).2.2
theorem or_bound {a k m : Nat} (h : a ||| k < 2 ^ m) : a < 2 ^ m ∧ k < 2 ^ m := ⟨Nat.lt_of_le_of_lt Nat.left_le_or h, Nat.lt_of_le_of_lt Nat.right_le_or h⟩

set_option maxHeartbeats 1600000 in
set_option maxRecDepth 1000000 in
theorem order_c (vk : Value) (keys : List Int) (w : World) (hk : Holds w vk (keys.map (Value.int .u64))) (hn1 : keys.length ≤ 1000) (hwf : ∀ z ∈ keys, (Lit.int .u64 z).wf = true) :
    Calls Try.prog 51 #[vk] w fun e w' => ∃ v' l, e = .returned v' ∧ Ordered (keyOf keys) keys.length l ∧ w'.ownsRow w.heap.size 3 1 v' keys.length (natsV l) ∧ Below w.heap.size w w' := by
  have hlog := fun (u : Nat) (w : World) hu => log_c u w hu
  have hkeep := hk
  obtain ⟨ak, ck, rfl, hrk⟩ := hk
  rw [List.length_map] at hkeep ⊢
  have hpass := fun (vf : Value) (l : List Nat) (sh g cap : Nat) (ys : List Value) (w' : World) (hB : Below w.heap.size w w') hf ht hne hke hl hsh => pass_c (.slice ak keys.length ck) vf keys l sh g cap keys.length ys w' (hkeep.below hB) hf ht hne hke rfl hn1 hl hsh hwf
  obtain ⟨i0, hi, hz0, hz1, hz2⟩ := info_parts infoI
  go_enter Try.func51, Try.ntmps51
  go_wp2_with (refine wpList_make_full _ rfl _ _ 54 rfl w.heap.size 3 i0 (.int .i64 0) 1 Try.underlying54 hi hz0 hz1 .i64 .i64 _ _ keys.length rfl rfl rfl rfl ?d3 ?d4 ?d5 ?_)
  case d3 => rw [hz2]; omega
  case d4 => unfold maxLen; omega
  case d5 => omega
  intro w0 hown0 hgrow0
  have hsz0 := hgrow0.size
  have hB0 : Below w.heap.size w w0 := (Below.refl _ _).grown hgrow0 (Nat.le_refl _) (fun j hj => by cases hj)
  have hown1 : w0.ownsRow w.heap.size 3 1 (.slice (some ⟨w.heap.size, 0, none⟩) keys.length keys.length) keys.length (laidTo keys.length 0) := by
    rw [laidTo_zero]
    simpa [madeCells, Value.cells, Nat.mod_one, List.map_const'] using hown0
  clear hown0 hgrow0
  go_wp2
  go_loopw [14, 4] (fun i a wr => ∃ k A : Nat, k ≤ keys.length ∧ i = .int .i64 k ∧ a = .int .u64 (A : Nat) ∧ A < 18446744073709551616 ∧ Hid (k = 0 → A = 0) ∧ Hid (∀ p, p < k → ∀ m, A < 2 ^ m → keyOf keys p < 2 ^ m) ∧
      wr.ownsRow w.heap.size 3 1 (.slice (some ⟨w.heap.size, 0, none⟩) keys.length keys.length) keys.length (laidTo keys.length k) ∧ Below w.heap.size w wr)
    (fun i _ _ => keys.length - (intOf i).toNat)
  case atStart => exact ⟨0, 0, Nat.zero_le _, rfl, rfl, by omega, fun _ => rfl, fun p hp => by omega, hown1, hB0⟩
  case round =>
    obtain ⟨k, A, hk, rfl, rfl, hA, hnil, hall, hown, hnx⟩ := hrel
    by_cases hlt : k < keys.length
    · obtain ⟨bk, ok, rfl, hbk, hck⟩ : ∃ b off, ak = some ⟨b, off, none⟩ ∧ b < w.heap.size ∧ w.cell? ⟨b, off + k, none⟩ = some (.int .u64 (keys.getD k 0)) := by
        rcases hrk with h0 | ⟨b, off, rfl, hb, hc⟩
        · simp only [List.map_eq_nil_iff] at h0; subst h0; simp at hlt
        · exact ⟨b, off, rfl, hb, hc k _ (by rw [List.getElem?_map, getD_some hlt]; rfl)⟩
      have hck' : wr.cell? ⟨bk, ok + k, none⟩ = some (.int .u64 (keys.getD k 0)) := (hnx.cell (by exact hbk)).trans hck
      obtain ⟨hz0', hz1'⟩ := bounds_u64 (hwf _ (getD_mem hlt))
      have hzk : keys.getD k 0 = ((keyOf keys k : Nat) : Int) := by unfold keyOf; omega
      have hkb : keyOf keys k < 18446744073709551616 := by unfold keyOf; omega
      have hor : bits .or .u64 (A : Int) (keys.getD k 0) = ((A ||| keyOf keys k : Nat) : Int) := by rw [hzk]; exact u64_or_nat A _ hA hkb
      have hA2 : A ||| keyOf keys k < 18446744073709551616 := Nat.or_lt_two_pow (n := 64) (by omega) (by omega)
      have hall2 : Hid (∀ p, p < k + 1 → ∀ m, A ||| keyOf keys k < 2 ^ m → keyOf keys p < 2 ^ m) := fun p hp m hm => by
        obtain ⟨h1, h2⟩ := or_bound hm
        rcases Nat.lt_or_ge p k with h | h
        · exact hall.out p h m h1
        · obtain rfl : p = k := by omega
          exact h2
      have hst := hown.stored k (.int .i64 (k : Int))
      rw [laidTo_set _ _ hlt] at hst
      have hfr : wr.frozen? ⟨w.heap.size, k, none⟩ = false := hown.frozenAt k
      obtain ⟨tv, htv⟩ : ∃ tv, wr.cell? ⟨w.heap.size, k, none⟩ = some tv := by
        rw [hown.cellAt k (by omega)]
        exact ⟨_, List.getElem?_eq_getElem (by rw [laidTo_len]; omega)⟩
      clear hck hall hzk hpass hlog hz0' hz1'
      generalize keys.getD k 0 = z at *
      generalize A ||| keyOf keys k = A2 at *
      go_wp2
      go_roundw
      case rel => exact ⟨k + 1, A2, by omega, by go_num, by first | rfl | rw [hor], hA2, fun h => by omega, hall2, hst.1, hnx.setCell (Nat.le_refl _) _⟩
      case measure => simp [intOf]; omega
    · obtain rfl : k = keys.length := by omega
      rw [laidTo_all] at hown
      clear hown1 hB0 hsz0
      have hszr := hnx.size
      go_wp2_with (refine wpList_make_full _ rfl _ _ 54 rfl w.heap.size 3 i0 (.int .i64 0) 1 Try.underlying54 hi hz0 hz1 .i64 .i64 _ _ keys.length rfl rfl rfl rfl ?d3 ?d4 ?d5 ?_)
      case d3 => rw [hz2]; omega
      case d4 => unfold maxLen; omega
      case d5 => omega
      intro w2 hown2 hgrow2
      have hB2 : Below w.heap.size w w2 := hnx.grown hgrow2 hszr (fun j hj => by cases hj)
      have hown3 := hown.kept hgrow2 (.inr (by simp [Value.ownBlock]))
      have hown2 := own_base hown2 hszr
      have hAl := bitLen_bound hA
      have hbl := Lib.bitLen_le A 64 (by decide) hA
      have hlogA := fun w => hlog A w hA
      have hwne : w.heap.size ≠ wr.heap.size := by have := (hown.lt w.heap.size rfl).2; omega
      clear hlog hgrow2 hown hnx
      go_wp2
      go_loopw [3, 7, 8] (fun v3 v7 sh wr => ∃ m : Nat, ∃ l : List Nat, ∃ g1 g2 c1 c2 : Nat, ∃ ys : List Value, v3 = .slice (some ⟨g1, 0, none⟩) keys.length c1 ∧ v7 = .slice (some ⟨g2, 0, none⟩) keys.length c2 ∧ g1 ≠ g2 ∧ sh = .int .i64 ((8 * m : Nat) : Int) ∧ m ≤ 8 ∧
          Hid (Ordered (fun p => keyOf keys p % 2 ^ (8 * m)) keys.length l) ∧ wr.ownsRow w.heap.size 3 1 (.slice (some ⟨g1, 0, none⟩) keys.length c1) keys.length (natsV l) ∧
          wr.ownsRow w.heap.size 3 1 (.slice (some ⟨g2, 0, none⟩) keys.length c2) keys.length ys ∧ Below w.heap.size w wr)
        (fun _ _ sh _ => 72 - (intOf sh).toNat)
      case atStart =>
        refine ⟨0, List.range keys.length, _, _, _, _, _, rfl, rfl, hwne, rfl, by omega, ?_, hown3, hown2, hB2⟩
        exact ordered_congr (ordered_start keys.length) fun p _ => by simp [Nat.mod_one]
      case round =>
        clear hown3 hown2 hB2
        obtain ⟨m, l, g1, g2, c1, c2, ys, rfl, rfl, hgne, rfl, hm, hord, ho1, ho2, hnx⟩ := hrel
        by_cases hgo : ((8 * m : Nat) : Int) ≤ (Lib.bitLen A : Int) - 1
        · have hm7 : m ≤ 7 := by omega
          have hg2 := (ho2.lt g2 rfl)
          have hA0 : A ≠ 0 := fun e => by subst e; have : Lib.bitLen 0 = 0 := by decide
                                          omega
          have hk0 : 0 < keys.length := by
            rcases Nat.eq_zero_or_pos keys.length with h | h
            · exact absurd (hnil.out h) hA0
            · exact h
          have hke : (Value.slice ak keys.length ck).ownBlock ≠ some g2 := by
            rcases hrk with h0 | ⟨b, off, rfl, hb, _⟩
            · simp only [List.map_eq_nil_iff] at h0; subst h0; simp at hk0
            · simp only [Value.ownBlock]; intro e; cases e; omega
          have hcall := hpass (.slice (some ⟨g1, 0, none⟩) keys.length c1) l (8 * m) g2 c2 ys wr hnx (holds_of_owns ho1) (own_base ho2 (Nat.zero_le _)) (by simp only [Value.ownBlock]; intro e; cases e; exact hgne rfl) hke hord.out.perm (by omega)
          have hord2 : Hid (Ordered (fun p => keyOf keys p % 2 ^ (8 * (m + 1))) keys.length (sorted (byteOf keys (8 * m)) l 256)) := by
            have h := pass_ordered (key := keyOf keys) (w := 2 ^ (8 * m)) (Nat.two_pow_pos _) hord.out
            have e : 2 ^ (8 * m) * 256 = 2 ^ (8 * (m + 1)) := by rw [show 8 * (m + 1) = 8 * m + 8 by omega, Nat.pow_add, show (2 : Nat) ^ 8 = 256 by decide]
            rw [e] at h
            exact h
          generalize sorted (byteOf keys (8 * m)) l 256 = l2 at *
          have hdec : decide (((8 * m : Nat) : Int) ≤ (Lib.bitLen A : Int) - 1) = true := decide_eq_true hgo
          have hm56 : 8 * m ≤ 56 := by omega
          clear hpass hord hall hrk hkeep hnil
          generalize hM : 8 * m = M at *
          generalize Lib.bitLen A = BL at *
          go_wp2_with (first
            | (go_at_call 65; refine (hlogA _).mono ?_; rintro e w' ⟨rfl, rfl⟩)
            | (go_at_call 66; refine hcall.mono ?_; rintro e w' ⟨rfl, hg, ht'⟩))
          have ho2' := own_base (B' := w.heap.size) ht' hg2.1
          have ho1' := ho1.kept hg (.inr (by simp only [Value.ownBlock]; intro e; cases e; exact hgne rfl))
          have hB' : Below w.heap.size w w' := hnx.grown hg hnx.size (fun j hj => by cases hj; exact hg2.1)
          clear ht' hg ho1 ho2 hcall
          go_roundw
          case rel =>
            refine ⟨m + 1, l2, g2, g1, c2, c1, natsV l, rfl, rfl, fun e => hgne e.symm, ?_, by omega, hord2, ho2', ho1', hB'⟩
            have e : ((M : Nat) : Int) + 8 = ((8 * (m + 1) : Nat) : Int) := by omega
            first | rw [e] | go_num
          case measure => simp [intOf]; omega
        · have hle : Lib.bitLen A ≤ 8 * m := by omega
          have hfin : Hid (Ordered (keyOf keys) keys.length l) := by
            refine ordered_congr hord.out fun p hp => Nat.mod_eq_of_lt ?_
            exact hall.out p hp _ (Nat.lt_of_lt_of_le hAl (Nat.pow_le_pow_right (by decide) hle))
          have hdec : decide (((8 * m : Nat) : Int) ≤ (Lib.bitLen A : Int) - 1) = false := decide_eq_false hgo
          clear hpass hord hall hrk hkeep hnil hAl
          generalize hM : 8 * m = M at *
          generalize Lib.bitLen A = BL at *
          go_wp2_with (go_at_call 65; refine (hlogA _).mono ?_; rintro e w' ⟨rfl, rfl⟩)
          go_ret
          exact ⟨_, l, rfl, hfin.out, ho1, hnx⟩
end Go.Proofs.Ytgojieabeaalcaa
