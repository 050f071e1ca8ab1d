/-
  ONE PASS OF THE PROGRAM's ORDER: places laid by one byte of their keys, by contract.
-/
import Derived.Test.YtgojieabeaalcaaSl
import Derived.Test.YtgojieabeaalcaaOMath
import Derived.Lib.VarintBits
import Derived.Laws.BitsAllLaws
namespace Go.Proofs.Ytgojieabeaalcaa
open Go.ChangeShapes Go.WideShapes Go.ChangeAt Go.RowKit

def keyOf (keys : List Int) (p : Nat) : Nat := (keys.getD p 0).toNat
def byteOf (keys : List Int) (sh p : Nat) : Nat := keyOf keys p / 2 ^ sh % 256
def natsV (l : List Nat) : List Value := l.map fun (p : Nat) => Value.int .i64 (p : Int)
def cellsOf (f : Nat → Nat) : List Value := (List.range 257).map fun (i : Nat) => Value.int .i64 (f i : Int)
theorem cellsOf_len (f : Nat → Nat) : (cellsOf f).length = 257 := by simp [cellsOf]
theorem cellsOf_at (f : Nat → Nat) {i : Nat} (hi : i < 257) : (cellsOf f)[i]? = some (.int .i64 (f i)) := by
  simp [cellsOf, hi]
theorem cellsOf_set {f g : Nat → Nat} {j v : Nat} (hj : g j = v) (h : ∀ i, i < 257 → i ≠ j → g i = f i) : (cellsOf f).set j (.int .i64 (v : Int)) = cellsOf g := by
  apply List.ext_getElem?
  intro i
  rw [List.getElem?_set, cellsOf_len]
  by_cases hi : i < 257
  · rw [cellsOf_at f hi, cellsOf_at g hi]
    by_cases hij : j = i
    · subst hij; rw [if_pos rfl, if_pos hi, hj]
    · rw [if_neg hij, h i hi (fun e => hij e.symm)]
  · rw [List.getElem?_eq_none (l := cellsOf f) (by rw [cellsOf_len]; omega), List.getElem?_eq_none (l := cellsOf g) (by rw [cellsOf_len]; omega)]
    split
    · rw [if_neg (by omega)]
    · rfl
theorem cellsOf_congr {f g : Nat → Nat} (h : ∀ i, i < 257 → f i = g i) : cellsOf f = cellsOf g := by
  unfold cellsOf
  apply List.map_congr_left
  intro i hi
  rw [h i (List.mem_range.1 hi)]
theorem part_range_succ (d : Nat → Nat) (k b : Nat) : (part d (List.range (k + 1)) b).length = (part d (List.range k) b).length + if d k = b then 1 else 0 := by
  unfold part
  rw [List.range_succ, List.filter_append, List.length_append]
  by_cases h : d k = b <;> simp [h]
theorem part_take_succ (d : Nat → Nat) (l : List Nat) (k b : Nat) (hk : k < l.length) : part d (l.take (k + 1)) b = part d (l.take k) b ++ if d (l.getD k 0) = b then [l.getD k 0] else [] := by
  have : l.take (k + 1) = l.take k ++ [l.getD k 0] := by rw [List.take_add_one, List.getElem?_eq_getElem hk]; simp [List.getD, hk]
  unfold part
  rw [this, List.filter_append]
  by_cases h : d (l.getD k 0) = b
  · rw [if_pos h, List.filter_cons_of_pos (by simpa using h)]; rfl
  · rw [if_neg h, List.filter_cons_of_neg (by simpa using h)]; rfl
theorem byteOf_lt (keys : List Int) (sh p : Nat) : byteOf keys sh p < 256 := Nat.mod_lt _ (by decide)

theorem zero_starts (w : World) : Sem.run Try.prog (zeroValue 132) w = .ok (.agg (cellsOf fun _ => 0).toArray) w := by kernel_rfl
/-- What the loops have counted. -/
def cnt1 (d : Nat → Nat) (k i : Nat) : Nat := if i = 0 then 0 else (part d (List.range k) (i - 1)).length
def cnt2 (d : Nat → Nat) (n k i : Nat) : Nat := if i ≤ k then Go.Proofs.Ytgojieabeaalcaa.below d (List.range n) i else (part d (List.range n) (i - 1)).length
def cnt3 (d : Nat → Nat) (n : Nat) (l : List Nat) (b : Nat) : Nat := Go.Proofs.Ytgojieabeaalcaa.below d (List.range n) b + (part d l b).length
theorem cnt1_step (d : Nat → Nat) (k : Nat) : (cellsOf (cnt1 d k)).set (d k + 1) (.int .i64 ((cnt1 d k (d k + 1) : Nat) + 1 : Int)) = cellsOf (cnt1 d (k + 1)) := by
  refine cellsOf_set (v := cnt1 d k (d k + 1) + 1) ?_ fun i _ hne => ?_
  · simp [cnt1, part_range_succ]
  · unfold cnt1
    split
    · rfl
    · rw [part_range_succ, if_neg (by omega)]; rfl
theorem cnt2_step (d : Nat → Nat) (n k : Nat) : (cellsOf (cnt2 d n k)).set (k + 1) (.int .i64 ((cnt2 d n k (k + 1) : Nat) + (cnt2 d n k k : Nat) : Int)) = cellsOf (cnt2 d n (k + 1)) := by
  refine cellsOf_set (v := cnt2 d n k (k + 1) + cnt2 d n k k) ?_ fun i _ hne => ?_
  · unfold cnt2
    rw [if_pos (Nat.le_refl (k + 1)), if_neg (show ¬ k + 1 ≤ k by omega), if_pos (Nat.le_refl k), below_succ, Nat.add_sub_cancel, Nat.add_comm]
  · unfold cnt2
    by_cases h : i ≤ k
    · rw [if_pos h, if_pos (by omega)]
    · rw [if_neg h, if_neg (by omega)]
theorem cnt2_start (d : Nat → Nat) (n : Nat) : cellsOf (cnt1 d n) = cellsOf (cnt2 d n 0) := cellsOf_congr fun i _ => by
  unfold cnt1 cnt2
  by_cases h : i = 0
  · subst h; simp [below_zero]
  · rw [if_neg h, if_neg (by omega)]
theorem cnt3_start (d : Nat → Nat) (n : Nat) : cellsOf (cnt2 d n 256) = cellsOf (cnt3 d n []) := cellsOf_congr fun i hi => by
  unfold cnt2 cnt3
  rw [if_pos (by omega)]; rfl
theorem cnt3_step (d : Nat → Nat) (n : Nat) (l : List Nat) (k : Nat) (hk : k < l.length) : (cellsOf (cnt3 d n (l.take k))).set (d (l.getD k 0)) (.int .i64 ((cnt3 d n (l.take k) (d (l.getD k 0)) : Nat) + 1 : Int)) = cellsOf (cnt3 d n (l.take (k + 1))) := by
  refine cellsOf_set (v := cnt3 d n (l.take k) (d (l.getD k 0)) + 1) ?_ fun i _ hne => ?_
  · unfold cnt3; rw [part_take_succ d l k _ hk, if_pos rfl, List.length_append]; rfl
  · unfold cnt3; rw [part_take_succ d l k _ hk, if_neg (fun e => hne e.symm), List.append_nil]
/-- Where the next place of a byte goes. -/
theorem cnt3_lt {d : Nat → Nat} {n : Nat} {l : List Nat} (hd : ∀ p, d p < 256) (hl : l.Perm (List.range n)) {k : Nat} (hk : k < l.length) :
    cnt3 d n (l.take k) (d (l.getD k 0)) < n ∧ ∀ b, b < 256 → cnt3 d n (l.take k) b ≤ Go.Proofs.Ytgojieabeaalcaa.below d (List.range n) (b + 1) := by
  have hpre : ∀ m b, (part d (l.take m) b).length ≤ (part d (List.range n) b).length := fun m b => by
    rw [← part_perm hl b]
    exact (List.Sublist.filter _ (List.take_sublist m l)).length_le
  have hall : Go.Proofs.Ytgojieabeaalcaa.below d (List.range n) 256 = n := by rw [below_all hd]; simp
  constructor
  · have h1 := hpre (k + 1) (d (l.getD k 0))
    rw [part_take_succ d l k _ hk, if_pos rfl, List.length_append] at h1
    have h2 := below_mono d (List.range n) (a := d (l.getD k 0) + 1) (b := 256) (hd _)
    rw [below_succ, hall] at h2
    unfold cnt3
    simp only [List.length_cons, List.length_nil] at h1
    omega
  · intro b hb
    have h1 := hpre k b
    unfold cnt3
    rw [below_succ]
    omega
/-- What the row holds of which so many places are laid. -/
def Laid (d : Nat → Nat) (n : Nat) (l : List Nat) (ts : List Value) : Prop :=
  ∀ (b j p : Nat), b < 256 → (part d l b)[j]? = some p → ts[Go.Proofs.Ytgojieabeaalcaa.below d (List.range n) b + j]? = some (.int .i64 (p : Int))
theorem laid_step {d : Nat → Nat} {n : Nat} {l : List Nat} (hd : ∀ p, d p < 256) (hl : l.Perm (List.range n)) {k : Nat} (hk : k < l.length) {ts : List Value} (htl : ts.length = n) (h : Laid d n (l.take k) ts) :
    Laid d n (l.take (k + 1)) (ts.set (cnt3 d n (l.take k) (d (l.getD k 0))) (.int .i64 (l.getD k 0 : Nat))) := by
  intro b j p hb hp
  obtain ⟨hlt, hle⟩ := cnt3_lt hd hl hk
  rw [part_take_succ d l k b hk] at hp
  rw [List.getElem?_set, htl, if_pos hlt]
  by_cases hbe : d (l.getD k 0) = b
  · rw [if_pos hbe] at hp
    rcases Nat.lt_or_ge j (part d (l.take k) b).length with hj | hj
    · rw [List.getElem?_append_left hj] at hp
      rw [if_neg (by unfold cnt3; rw [hbe]; omega)]
      exact h b j p hb hp
    · rw [List.getElem?_append_right hj] at hp
      have hj2 : j = (part d (l.take k) b).length := by
        have := (List.getElem?_eq_some_iff.1 hp).1
        simp only [List.length_cons, List.length_nil] at this
        omega
      subst hj2
      simp only [Nat.sub_self, List.getElem?_cons_zero, Option.some.injEq] at hp
      rw [if_pos (by unfold cnt3; rw [hbe]), hp]
  · rw [if_neg hbe, List.append_nil] at hp
    have hj := (List.getElem?_eq_some_iff.1 hp).1
    rw [if_neg]
    · exact h b j p hb hp
    · intro e
      have h1 : cnt3 d n (l.take k) (d (l.getD k 0)) = Go.Proofs.Ytgojieabeaalcaa.below d (List.range n) b + j := e
      have h2 := hle b hb
      unfold cnt3 at h2
      have h3 : Go.Proofs.Ytgojieabeaalcaa.below d (List.range n) (d (l.getD k 0)) ≤ cnt3 d n (l.take k) (d (l.getD k 0)) := by unfold cnt3; omega
      have h4 : cnt3 d n (l.take (k + 1)) (d (l.getD k 0)) ≤ Go.Proofs.Ytgojieabeaalcaa.below d (List.range n) (d (l.getD k 0) + 1) := by
        have hpre : (part d (l.take (k + 1)) (d (l.getD k 0))).length ≤ (part d (List.range n) (d (l.getD k 0))).length := by
          rw [← part_perm hl _]
          exact (List.Sublist.filter _ (List.take_sublist _ l)).length_le
        unfold cnt3
        rw [below_succ]
        omega
      have h5 : cnt3 d n (l.take (k + 1)) (d (l.getD k 0)) = cnt3 d n (l.take k) (d (l.getD k 0)) + 1 := by
        unfold cnt3; rw [part_take_succ d l k _ hk, if_pos rfl, List.length_append]; rfl
      have h6 : Go.Proofs.Ytgojieabeaalcaa.below d (List.range n) b + j < Go.Proofs.Ytgojieabeaalcaa.below d (List.range n) (b + 1) := by
        have : (part d (l.take k) b).length ≤ (part d (List.range n) b).length := by
          rw [← part_perm hl b]
          exact (List.Sublist.filter _ (List.take_sublist _ l)).length_le
        rw [below_succ]
        omega
      rcases Nat.lt_or_ge (d (l.getD k 0)) b with h7 | h7
      · have := below_mono d (List.range n) (a := d (l.getD k 0) + 1) (b := b) h7
        omega
      · have := below_mono d (List.range n) (a := b + 1) (b := d (l.getD k 0)) (by omega)
        omega
theorem laid_all {d : Nat → Nat} {n : Nat} {l : List Nat} (hd : ∀ p, d p < 256) (hl : l.Perm (List.range n)) {ts : List Value} (htl : ts.length = n) (h : Laid d n l ts) : ts = natsV (sorted d l 256) := by
  have hall : Go.Proofs.Ytgojieabeaalcaa.below d l 256 = n := by rw [below_all hd, hl.length_eq]; simp
  apply List.ext_getElem?
  intro i
  by_cases hi : i < n
  · obtain ⟨b, j, hb, hj, rfl⟩ := place_of d l 256 i (by omega)
    have h1 := h b j _ hb (List.getElem?_eq_getElem hj)
    rw [← below_perm hl] at h1
    rw [h1, natsV, List.getElem?_map, sorted_at d l 256 b j hb hj, List.getElem?_eq_getElem hj]; rfl
  · rw [List.getElem?_eq_none (by omega), List.getElem?_eq_none]
    rw [natsV, List.length_map]
    show Go.Proofs.Ytgojieabeaalcaa.below d l 256 ≤ i
    omega
theorem getD_some {l : List Int} {p : Nat} (h : p < l.length) : l[p]? = some (l.getD p 0) := by rw [List.getElem?_eq_getElem h]; simp [List.getD, h]
theorem getD_mem {l : List Int} {p : Nat} (h : p < l.length) : l.getD p 0 ∈ l := List.mem_of_getElem? (getD_some h)
theorem grown_set {w wr : World} {g b c : Nat} {u : Value} (h : w.grownBy wr (some g)) (hb : b = g ∨ w.heap.size ≤ b) : w.grownBy (wr.setCell ⟨b, c, none⟩ u) (some g) := by
  refine ⟨h.os, h.tape, h.output, by simpa using h.size, fun k hk hne => ?_⟩
  rw [Below.heap_setCell wr _ u k (fun e => by
    have e : k = b := e
    rcases hb with rfl | hb
    · exact hne (by rw [e])
    · omega)]
  exact h.block k hk hne
theorem part_le (d : Nat → Nat) (l : List Nat) (b : Nat) : (part d l b).length ≤ l.length := List.length_filter_le _ _
theorem cnt1_le (d : Nat → Nat) (k i : Nat) : cnt1 d k i ≤ k := by
  unfold cnt1
  split
  · exact Nat.zero_le _
  · have := part_le d (List.range k) (i - 1); simpa using this
theorem byte_int {z : Int} (h0 : 0 ≤ z) (sh : Nat) : z / 2 ^ sh % 256 = ((z.toNat / 2 ^ sh % 256 : Nat) : Int) := by
  have e : z = (z.toNat : Int) := (Int.toNat_of_nonneg h0).symm
  rw [e]; simp
theorem starts_owned (w : World) : (w.alloc (.cells (cellsOf fun _ => 0).toArray 132)).ownsRow w.heap.size 132 1 (.slice (some ⟨w.heap.size, 0, none⟩) 257 257) 257 (cellsOf fun _ => 0) :=
  World.ownsRow_lit w (cellsOf fun _ => 0).toArray 257 (Nat.le_refl _) (by decide) (by simp [cellsOf])

set_option maxHeartbeats 1600000 in
set_option maxRecDepth 1000000 in
theorem pass_c (vk vf : Value) (keys : List Int) (l : List Nat) (sh g cap n : Nat) (ys : List Value) (w : World) (hk : Holds w vk (keys.map (Value.int .u64))) (hf : Holds w vf (natsV l))
    (ht : w.ownsRow 0 3 1 (.slice (some ⟨g, 0, none⟩) n cap) n ys) (hne : vf.ownBlock ≠ some g) (hke : vk.ownBlock ≠ some g) (hn : n = keys.length) (hn1 : n ≤ 1000) (hl : l.Perm (List.range n)) (hsh : sh ≤ 63)
    (hwf : ∀ z ∈ keys, (Lit.int .u64 z).wf = true) :
    Calls Try.prog 66 #[vk, vf, .slice (some ⟨g, 0, none⟩) n cap, .int .i64 sh] w fun e w' => e = .returned (.tuple #[]) ∧ w.grownBy w' (some g) ∧
      w'.ownsRow 0 3 1 (.slice (some ⟨g, 0, none⟩) n cap) n (natsV (sorted (byteOf keys sh) l 256)) := by
  obtain ⟨ak, ck, rfl, hrk⟩ := hk
  obtain ⟨af, cf, rfl, hrf⟩ := hf
  have hll : l.length = n := by simpa using hl.length_eq
  subst hn
  rw [List.length_map]
  rw [show (natsV l).length = keys.length by simp [natsV, hll]]
  have hz := fun w => zero_starts w
  have hst := starts_owned w
  generalize hZ : (cellsOf fun _ => 0).toArray = Z at *
  clear hZ
  go_enter Try.func66, Try.ntmps66
  go_wp2
  generalize hD : byteOf keys sh = D at *
  go_loopw [17] (fun i wr => ∃ k : Nat, k ≤ keys.length ∧ i = .int .i64 k ∧ wr.ownsRow w.heap.size 132 1 (.slice (some ⟨w.heap.size, 0, none⟩) 257 257) 257 (cellsOf (cnt1 D k)) ∧ Below w.heap.size w wr)
    (fun i _ => keys.length - (intOf i).toNat)
  case atStart =>
    refine ⟨0, Nat.zero_le _, rfl, ?_, (Below.refl _ _).alloc (Nat.le_refl _) _⟩
    rw [show cellsOf (cnt1 D 0) = cellsOf (fun _ => 0) from cellsOf_congr fun i _ => by unfold cnt1; split <;> rfl]
    exact hst
  case round =>
    obtain ⟨k, hk, rfl, hown, hnx⟩ := hrel
    by_cases hlt : k < keys.length
    · obtain ⟨bk, ok, rfl, hbk, hck⟩ : ∃ b off, ak = some ⟨b, off, none⟩ ∧ b < w.heap.size ∧ w.cell? ⟨b, off + k, none⟩ = some (.int .u64 (keys.getD k 0)) := by
        rcases hrk with h0 | ⟨b, off, rfl, hb, hc⟩
        · simp only [List.map_eq_nil_iff] at h0; subst h0; simp at hlt
        · exact ⟨b, off, rfl, hb, hc k _ (by simp [hlt])⟩
      have hckr : wr.cell? ⟨bk, ok + k, none⟩ = some (.int .u64 (keys.getD k 0)) := (hnx.cell (by exact hbk)).trans hck
      have hz0 := (bounds_u64 (hwf (keys.getD k 0) (by simp [List.getD, hlt]))).1
      have hzD : keys.getD k 0 / 2 ^ sh % 256 = ((D k : Nat) : Int) := by rw [byte_int hz0, ← hD]; rfl
      have hd : D k < 256 := by rw [← hD]; exact byteOf_lt _ _ _
      have hcell : wr.cell? ⟨w.heap.size, D k + 1, none⟩ = some (.int .i64 (cnt1 D k (D k + 1) : Nat)) := by
        rw [hown.cellAt (D k + 1) (by omega), cellsOf_at _ (by omega)]
      have hfr : wr.frozen? ⟨w.heap.size, D k + 1, none⟩ = false := hown.frozenAt (D k + 1)
      have hst := hown.stored (D k + 1) (.int .i64 ((cnt1 D k (D k + 1) : Nat) + 1 : Int))
      rw [cnt1_step] at hst
      have hle := cnt1_le D k (D k + 1)
      have hto : (((D k : Nat) : Int) + 1).toNat = D k + 1 := by omega
      have hcb : cnt1 D k (D k + 1) ≤ 1000 := by omega
      clear hck
      generalize keys.getD k 0 = z at *
      generalize cnt1 D k (D k + 1) = c at *
      generalize D k = d at *
      go_wp2
      go_roundw
      case rel => exact ⟨k + 1, by omega, by go_num, hst.1, hnx.setCell (Nat.le_refl _) _⟩
      case measure => simp [intOf]; omega
    · obtain rfl : k = keys.length := by omega
      rw [cnt2_start] at hown
      have hD1 : ∀ p, D p < 256 := fun p => by rw [← hD]; exact byteOf_lt _ _ _
      clear hst
      go_wp2
      go_loopw [32] (fun i wr => ∃ k : Nat, k ≤ 256 ∧ i = .int .i64 k ∧ wr.ownsRow w.heap.size 132 1 (.slice (some ⟨w.heap.size, 0, none⟩) 257 257) 257 (cellsOf (cnt2 D keys.length k)) ∧ Below w.heap.size w wr)
        (fun i _ => 256 - (intOf i).toNat)
      case atStart => exact ⟨0, Nat.zero_le _, rfl, hown, hnx⟩
      case round =>
        clear hown hnx
        obtain ⟨k, hk, rfl, hown, hnx⟩ := hrel
        by_cases hlt : k < 256
        · have hc0 : wr.cell? ⟨w.heap.size, k, none⟩ = some (.int .i64 (cnt2 D keys.length k k : Nat)) := by rw [hown.cellAt k (by omega), cellsOf_at _ (by omega)]
          have hc1 : wr.cell? ⟨w.heap.size, k + 1, none⟩ = some (.int .i64 (cnt2 D keys.length k (k + 1) : Nat)) := by rw [hown.cellAt (k + 1) (by omega), cellsOf_at _ (by omega)]
          have hfr : wr.frozen? ⟨w.heap.size, k + 1, none⟩ = false := hown.frozenAt (k + 1)
          have hst := hown.stored (k + 1) (.int .i64 ((cnt2 D keys.length k (k + 1) : Nat) + (cnt2 D keys.length k k : Nat) : Int))
          rw [cnt2_step] at hst
          have hb0 : cnt2 D keys.length k k ≤ 1000 := by
            unfold cnt2
            rw [if_pos (Nat.le_refl _)]
            have := below_mono D (List.range keys.length) (a := k) (b := 256) (by omega)
            rw [below_all hD1, List.length_range] at this
            omega
          have hb1 : cnt2 D keys.length k (k + 1) ≤ 1000 := by
            unfold cnt2
            rw [if_neg (by omega)]
            have := part_le D (List.range keys.length) (k + 1 - 1)
            rw [List.length_range] at this
            omega
          generalize cnt2 D keys.length k k = c0 at *
          generalize cnt2 D keys.length k (k + 1) = c1 at *
          go_wp2
          go_region
          go_wp2
          go_roundw
          case rel => exact ⟨k + 1, by omega, by go_num, hst.1, hnx.drew.setCell (Nat.le_refl _) _⟩
          case measure => simp [intOf]; omega
        · obtain rfl : k = 256 := by omega
          rw [cnt3_start] at hown
          have hgl := (ht.lt g rfl).2
          have hgne : g ≠ w.heap.size := by omega
          have hg0 : w.grownBy wr (some g) := ⟨hnx.os, hnx.tape, hnx.output, hnx.size, fun k hk _ => hnx.block k hk⟩
          have ht0 : wr.ownsRow 0 3 1 (.slice (some ⟨g, 0, none⟩) keys.length cap) keys.length ys := by
            refine ⟨ht.1, ?_⟩
            rcases ht.2 with h | ⟨g', cap', cur, h1, h2, h3, h4⟩
            · exact .inl h
            · cases h1
              exact .inr ⟨_, _, cur, rfl, h2, (hnx.block _ hgl).trans h3, h4⟩
          have hys : ys.length = keys.length := by simpa using ht.1
          go_wp2
          go_loopw [47] (fun i wr => ∃ k : Nat, ∃ ts : List Value, k ≤ keys.length ∧ i = .int .i64 k ∧ ts.length = keys.length ∧ Hid (Laid D keys.length (l.take k) ts) ∧ wr.ownsRow w.heap.size 132 1 (.slice (some ⟨w.heap.size, 0, none⟩) 257 257) 257 (cellsOf (cnt3 D keys.length (l.take k))) ∧
              wr.ownsRow 0 3 1 (.slice (some ⟨g, 0, none⟩) keys.length cap) keys.length ts ∧ w.grownBy wr (some g))
            (fun i _ => keys.length - (intOf i).toNat)
          case atStart => exact ⟨0, ys, Nat.zero_le _, rfl, hys, (fun b j p _ h => by simp [part] at h), by rw [List.take_zero]; exact hown, ht0, hg0⟩
          case round =>
            clear hown hnx hg0 ht0
            obtain ⟨k, ts, hk, rfl, htl, hlaid, hown, ht, hg⟩ := hrel
            by_cases hlt : k < keys.length
            · obtain ⟨bf, of, rfl, hbf, hcf⟩ : ∃ b off, af = some ⟨b, off, none⟩ ∧ b < w.heap.size ∧ w.cell? ⟨b, off + k, none⟩ = some (.int .i64 (l.getD k 0 : Nat)) := by
                rcases hrf with h0 | ⟨b, off, rfl, hb, hc⟩
                · simp only [natsV, List.map_eq_nil_iff] at h0; subst h0; simp at hll; omega
                · exact ⟨b, off, rfl, hb, hc k _ (by simp [natsV, show k < l.length by omega])⟩
              have hlk : k < l.length := by omega
              have hpm : l.getD k 0 < keys.length := by
                have : l.getD k 0 ∈ List.range keys.length := hl.subset (by simp [List.getD, hlk])
                exact List.mem_range.1 this
              obtain ⟨bk, ok, rfl, hbk, hck⟩ : ∃ b off, ak = some ⟨b, off, none⟩ ∧ b < w.heap.size ∧ w.cell? ⟨b, off + l.getD k 0, none⟩ = some (.int .u64 (keys.getD (l.getD k 0) 0)) := by
                rcases hrk with h0 | ⟨b, off, rfl, hb, hc⟩
                · simp only [List.map_eq_nil_iff] at h0; subst h0; simp at hpm
                · exact ⟨b, off, rfl, hb, hc _ _ (by rw [List.getElem?_map, getD_some hpm]; rfl)⟩
              have hcf' : wr.cell? ⟨bf, of + k, none⟩ = some (.int .i64 (l.getD k 0 : Nat)) := hg.cell hcf (fun e => hne e)
              have hck' : wr.cell? ⟨bk, ok + l.getD k 0, none⟩ = some (.int .u64 (keys.getD (l.getD k 0) 0)) := hg.cell hck (fun e => hke e)
              have hz0 := (bounds_u64 (hwf _ (getD_mem hpm))).1
              have hzD : keys.getD (l.getD k 0) 0 / 2 ^ sh % 256 = ((D (l.getD k 0) : Nat) : Int) := by rw [byte_int hz0, ← hD]; rfl
              have hlaid2 : Hid _ := laid_step hD1 hl hlk htl hlaid.out
              obtain ⟨hc1, hc2⟩ := cnt3_lt (n := keys.length) hD1 hl hlk
              have hst1 := ht.stored (cnt3 D keys.length (l.take k) (D (l.getD k 0))) (.int .i64 (l.getD k 0 : Nat))
              have hown2 := ownsRow_setCell_other hown (a := ⟨g, cnt3 D keys.length (l.take k) (D (l.getD k 0)), none⟩) (by simp [Value.ownBlock]; omega) (.int .i64 (l.getD k 0 : Nat))
              have hst2 := hown2.stored (D (l.getD k 0)) (.int .i64 ((cnt3 D keys.length (l.take k) (D (l.getD k 0)) : Nat) + 1 : Int))
              have hstep := cnt3_step D keys.length l k hlk
              have hset : (ts.set (cnt3 D keys.length (l.take k) (D (l.getD k 0))) (.int .i64 (l.getD k 0 : Nat))).length = keys.length := by rw [List.length_set, htl]
              have hdl := hD1 (l.getD k 0)
              have hcell : wr.cell? ⟨w.heap.size, D (l.getD k 0), none⟩ = some (.int .i64 (cnt3 D keys.length (l.take k) (D (l.getD k 0)) : Nat)) := by
                rw [hown.cellAt _ (by omega), cellsOf_at _ (by omega)]
              have hfr : wr.frozen? ⟨w.heap.size, D (l.getD k 0), none⟩ = false := hown.frozenAt _
              have hfg : wr.frozen? ⟨g, cnt3 D keys.length (l.take k) (D (l.getD k 0)), none⟩ = false := ht.frozenAt _
              obtain ⟨tv, htv⟩ : ∃ tv, wr.cell? ⟨g, cnt3 D keys.length (l.take k) (D (l.getD k 0)), none⟩ = some tv := by
                rw [ht.cellAt _ (by omega)]
                exact ⟨_, List.getElem?_eq_getElem (by omega)⟩
              rw [hstep] at hst2
              have hto2 := ownsRow_setCell_other hst1.1 (a := ⟨w.heap.size, D (l.getD k 0), none⟩) (by simp [Value.ownBlock]; omega) (.int .i64 ((cnt3 D keys.length (l.take k) (D (l.getD k 0)) : Nat) + 1 : Int))
              have hg2 := fun u v => grown_set (b := w.heap.size) (c := D (l.getD k 0)) (u := u) (grown_set (b := g) (c := cnt3 D keys.length (l.take k) (D (l.getD k 0))) (u := v) hg (.inl rfl)) (.inr (Nat.le_refl _))
              have hc3 : cnt3 D keys.length (l.take k) (D (l.getD k 0)) < 1000 := by omega
              clear hcf hck hc2 hstep hlaid hzD
              generalize hp : l.getD k 0 = p at *
              have hzD : keys.getD p 0 / 2 ^ sh % 256 = ((D p : Nat) : Int) := by rw [byte_int hz0, ← hD]; rfl
              generalize keys.getD p 0 = z at *
              generalize cnt3 D keys.length (l.take k) (D p) = c at *
              generalize D p = d at *
              clear hp
              go_wp2
              go_roundw
              case rel => exact ⟨k + 1, _, by omega, by go_num, hset, hlaid2, hst2.1, hto2, hg2 _ _⟩
              case measure => simp [intOf]; omega
            · obtain rfl : k = keys.length := by omega
              have hT : Hid (ts = natsV (sorted D l 256)) := laid_all hD1 hl htl (by have := hlaid.out; rwa [List.take_of_length_le (by omega)] at this)
              have ht2 : wr.ownsRow 0 3 1 (.slice (some ⟨g, 0, none⟩) keys.length cap) keys.length (natsV (sorted D l 256)) := by rw [← hT.out]; exact ht
              clear hlaid
              go_wp2
              first | go_end0 | refine bodyPost_ret (results_none rfl _ _ _) rfl ?_
              exact ⟨rfl, hg, by rw [hD]; exact ht2⟩
end Go.Proofs.Ytgojieabeaalcaa
