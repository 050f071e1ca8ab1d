/-
  SUMS AHEAD: the program's and the reference's, by one contract each.
-/
import Derived.Test.YtfkcopokeofjoaaGreatRec
import Derived.StillTailTactics
import Derived.OwnWalk
import Derived.BigQuiet
import Derived.Test.YtfkcopokeofjoaaGreatOrder
namespace Go.Proofs.YtfkcopokeofjoaaGreat
open Go.ChangeShapes Go.WideShapes Go.ChangeAt Go.RowKit

theorem infoInt : (Tryz.prog.info? 3).map (fun i => (i.zero, i.size, i.bytes)) = some (some (.int .i64 0), 1, 8) := by kernel_rfl
theorem take_snoc (zs : List Int) (k : Nat) (hk : k < zs.length) : zs.take (k + 1) = zs.take k ++ [zs.getD k 0] := by
  rw [List.take_add_one, List.getElem?_eq_getElem hk]; simp [List.getD, hk]

def pre (zs : List Int) (k : Nat) : Int := (zs.take k).sum
theorem pre_zero (zs : List Int) : pre zs 0 = 0 := rfl
theorem pre_succ (zs : List Int) {k : Nat} (hk : k < zs.length) : pre zs (k + 1) = pre zs k + zs.getD k 0 := by
  unfold pre; rw [take_snoc zs k hk, List.sum_append]; simp
def OkAt (zs : List Int) (k : Nat) : Prop := 0 ≤ zs.getD k 0 ∧ zs.getD k 0 ≤ 9007199254740992 - pre zs k
def AllOk (zs : List Int) : Prop := ∀ j, j < zs.length → OkAt zs j
theorem pre_bounds (zs : List Int) : ∀ k, k ≤ zs.length → (∀ j, j < k → OkAt zs j) → 0 ≤ pre zs k ∧ pre zs k ≤ 9007199254740992
  | 0, _, _ => by rw [pre_zero]; omega
  | k + 1, hk, h => by
    have ih := pre_bounds zs k (by omega) fun j hj => h j (by omega)
    obtain ⟨h1, h2⟩ := h k (by omega)
    rw [pre_succ zs (by omega)]; omega

/-- The row of sums, filled up to place k. -/
def sumRow (zs : List Int) (k : Nat) : List Value := (List.range (zs.length + 1)).map fun j => Value.int .i64 (if j ≤ k then pre zs j else 0)
theorem sumRow_len (zs : List Int) (k : Nat) : (sumRow zs k).length = zs.length + 1 := by simp [sumRow]
theorem sumRow_at (zs : List Int) (k : Nat) (hk : k ≤ zs.length) : (sumRow zs k)[k]? = some (.int .i64 (pre zs k)) := by
  simp only [sumRow, List.getElem?_map, List.getElem?_range (show k < zs.length + 1 by omega)]; simp
theorem sumRow_zero (zs : List Int) : sumRow zs 0 = List.replicate (zs.length + 1) (.int .i64 0) := by
  apply List.ext_getElem?
  intro j
  by_cases hj : j < zs.length + 1
  · simp only [sumRow, List.getElem?_map, List.getElem?_range hj, List.getElem?_replicate, hj, if_true, Option.map_some]
    by_cases h0 : j = 0
    · subst h0; simp [pre_zero]
    · simp [h0]
  · rw [List.getElem?_eq_none (by rw [sumRow_len]; omega), List.getElem?_eq_none (by simp; omega)]
theorem sumRow_set (zs : List Int) (k : Nat) : (sumRow zs k).set (k + 1) (.int .i64 (pre zs (k + 1))) = sumRow zs (k + 1) := by
  apply List.ext_getElem?
  intro j
  rw [List.getElem?_set, sumRow_len]
  by_cases hj : j < zs.length + 1
  · simp only [sumRow, List.getElem?_map, List.getElem?_range hj, Option.map_some]
    by_cases h0 : k + 1 = j
    · subst h0; simp [hj]
    · rw [if_neg h0]
      by_cases h1 : j ≤ k
      · simp [h1, show j ≤ k + 1 by omega]
      · simp [h1, show ¬ j ≤ k + 1 by omega]
  · rw [List.getElem?_eq_none (l := sumRow zs k) (by rw [sumRow_len]; omega), List.getElem?_eq_none (l := sumRow zs (k + 1)) (by rw [sumRow_len]; omega)]
    split
    · rename_i h; rw [if_neg (by omega)]
    · rfl
theorem sumRow_full (zs : List Int) : sumRow zs zs.length = ((List.range (zs.length + 1)).map (pre zs)).map (Value.int .i64) := by
  simp only [sumRow, List.map_map]
  apply List.map_congr_left
  intro j hj
  simp only [List.mem_range] at hj
  simp [show j ≤ zs.length by omega]

set_option maxHeartbeats 1600000 in
set_option maxRecDepth 1000000 in
theorem sums_c (v : Value) (zs : List Int) (w : World) (hv : Holds w v (zs.map (Value.int .i64))) (hz : zs.length ≤ 1000) (hwf : ∀ z ∈ zs, (Lit.int .i64 z).wf = true) :
    Calls Tryz.prog 37 #[v] w fun e w' => ∃ v' code, e = .returned (.tuple #[v', .int .i64 code]) ∧ Below w.heap.size w w' ∧
      ((AllOk zs ∧ code = 0 ∧ w'.ownsRow w.heap.size 3 1 v' (zs.length + 1) (((List.range (zs.length + 1)).map (pre zs)).map (Value.int .i64))) ∨ (¬ AllOk zs ∧ code = 3 ∧ v' = .slice none 0 0)) := by
  obtain ⟨a, cap, rfl, hrow⟩ := hv
  rw [List.length_map]
  obtain ⟨i0, hi, hz0, hz1, hz2⟩ := info_parts infoInt
  go_enter Tryz.func37, Tryz.ntmps37
  go_wp2_with (refine wpList_make_full _ rfl _ _ 37 rfl w.heap.size 3 i0 (.int .i64 0) 1 Tryz.underlying37 hi hz0 hz1 .i64 .i64 _ _ (zs.length + 1) rfl rfl ?d1 ?d2 ?d3 ?d4 ?d5 ?_)
  case d1 => push_cast; rfl
  case d2 => push_cast; rfl
  case d3 => rw [hz2]; omega
  case d4 => unfold maxLen; omega
  case d5 => omega
  intro w0 hown0 hgrow0
  have hsz0 := hgrow0.size
  have hB0 : Below w.heap.size w w0 := (Below.refl _ _).grown hgrow0 (Nat.le_refl _) (fun j hj => by cases hj)
  have hown1 : w0.ownsRow w.heap.size 3 1 (.slice (some ⟨w.heap.size, 0, none⟩) (zs.length + 1) (zs.length + 1)) (zs.length + 1) (sumRow zs 0) := by
    rw [sumRow_zero]
    simpa [madeCells, Value.cells, Nat.mod_one, List.map_const'] using hown0
  clear hown0 hgrow0
  go_wp2
  go_loopw [13] (fun i wr => ∃ k : Nat, k ≤ zs.length ∧ i = .int .i64 k ∧ (∀ j, j < k → OkAt zs j) ∧ wr.ownsRow w.heap.size 3 1 (.slice (some ⟨w.heap.size, 0, none⟩) (zs.length + 1) (zs.length + 1)) (zs.length + 1) (sumRow zs k) ∧ Below w.heap.size w wr)
    (fun i _ => zs.length - (intOf i).toNat)
  case atStart => exact ⟨0, Nat.zero_le _, rfl, fun j hj => by omega, hown1, hB0⟩
  case round =>
    obtain ⟨k, hk, rfl, hok, hown, hnx⟩ := hrel
    by_cases hlt : k < zs.length
    · rcases hrow with h0 | ⟨b, off, rfl, hb, hc⟩
      · simp only [List.map_eq_nil_iff] at h0; subst h0; simp at hlt
      have hcx : wr.cell? ⟨b, off + k, none⟩ = some (.int .i64 (zs.getD k 0)) := (hnx.cell (by exact hb)).trans (hc k _ (by simp [hlt]))
      have hcs : wr.cell? ⟨w.heap.size, k, none⟩ = some (.int .i64 (pre zs k)) := by rw [hown.cellAt k (by omega), sumRow_at zs k hk]
      have hcs1 : ∃ u, wr.cell? ⟨w.heap.size, k + 1, none⟩ = some u := ⟨_, by rw [hown.cellAt (k + 1) (by omega)]; exact List.getElem?_eq_getElem (by rw [sumRow_len]; omega)⟩
      obtain ⟨u1, hcs1⟩ := hcs1
      have hfr : wr.frozen? ⟨w.heap.size, k + 1, none⟩ = false := hown.frozenAt (k + 1)
      have hpb := pre_bounds zs k hk hok
      have hps := pre_succ zs hlt
      obtain ⟨hz0', hz1'⟩ := bounds_i64 (hwf (zs.getD k 0) (by simp [List.getD, hlt]))
      have hst := hown.stored (k + 1) (.int .i64 (pre zs (k + 1)))
      rw [sumRow_set, hps] at hst
      have hOk : OkAt zs k ↔ 0 ≤ zs.getD k 0 ∧ zs.getD k 0 ≤ 9007199254740992 - pre zs k := Iff.rfl
      clear hc hi hz0 hz1 hz2
      generalize zs.getD k 0 = z at *
      generalize pre zs k = p at *
      by_cases hg : 0 ≤ z ∧ z ≤ 9007199254740992 - p
      · obtain ⟨hg1, hg2⟩ := hg
        have hgu : (decide (z < 0) || decide (9007199254740992 - p < z)) = false := by simp; omega
        go_wp2
        go_roundw
        case rel =>
          refine ⟨k + 1, by omega, by go_num, fun j hj => ?_, ?_, ?_⟩
          · rcases Nat.lt_or_ge j k with h | h
            · exact hok j h
            · obtain rfl : j = k := by omega
              exact hOk.2 ⟨hg1, hg2⟩
          · exact hst.1
          · exact hnx.setCell (Nat.le_refl _) _
        case measure => simp [intOf]; omega
      · have hbad : Hid (¬ AllOk zs) := fun h => hg (hOk.1 (h k hlt))
        clear hst hok hOk
        by_cases hz1 : z < 0
        · clear hg
          go_wp2
          go_ret2
          exact ⟨_, _, rfl, hnx, .inr ⟨hbad.out, rfl, rfl⟩⟩
        · have hz2 : 9007199254740992 - p < z := by omega
          clear hg
          go_wp2
          go_ret2
          exact ⟨_, _, rfl, hnx, .inr ⟨hbad.out, rfl, rfl⟩⟩
    · obtain rfl : k = zs.length := by omega
      rw [sumRow_full] at hown
      go_wp2
      go_ret2
      exact ⟨_, _, rfl, hnx, .inl ⟨hok, rfl, hown⟩⟩
end Go.Proofs.YtfkcopokeofjoaaGreat
/-
  ROWS LAID INTO BUCKETS: the mathematics of counting. No function is named here.
-/
namespace Go.Proofs.YtfkcopokeofjoaaGreat
open Go.ChangeShapes Go.WideShapes Go.ChangeAt Go.RowKit

def cellsN (M : Nat) (f : Nat → Nat) : List Value := (List.range M).map fun (i : Nat) => Value.int .i64 (f i : Int)
theorem cellsN_len (M : Nat) (f : Nat → Nat) : (cellsN M f).length = M := by simp [cellsN]
theorem cellsN_at {M : Nat} (f : Nat → Nat) {i : Nat} (hi : i < M) : (cellsN M f)[i]? = some (.int .i64 (f i)) := by
  simp [cellsN, hi]
theorem cellsN_set {M : Nat} {f g : Nat → Nat} {j v : Nat} (hj : g j = v) (h : ∀ i, i < M → i ≠ j → g i = f i) : (cellsN M f).set j (.int .i64 (v : Int)) = cellsN M g := by
  apply List.ext_getElem?
  intro i
  rw [List.getElem?_set, cellsN_len]
  by_cases hi : i < M
  · rw [cellsN_at f hi, cellsN_at g hi]
    by_cases hij : j = i
    · subst hij; rw [if_pos rfl, if_pos hi, hj]
    · rw [if_neg hij, h i hi (fun e => hij e.symm)]
  · rw [List.getElem?_eq_none (l := cellsN M f) (by rw [cellsN_len]; omega), List.getElem?_eq_none (l := cellsN M g) (by rw [cellsN_len]; omega)]
    split
    · rw [if_neg (by omega)]
    · rfl
theorem cellsN_congr {M : Nat} {f g : Nat → Nat} (h : ∀ i, i < M → f i = g i) : cellsN M f = cellsN M g := by
  unfold cellsN
  apply List.map_congr_left
  intro i hi
  rw [h i (List.mem_range.1 hi)]
theorem cellsN_zero (M : Nat) : cellsN M (fun _ => 0) = List.replicate M (.int .i64 0) := by
  apply List.ext_getElem?
  intro i
  by_cases hi : i < M
  · rw [cellsN_at _ hi, List.getElem?_replicate, if_pos hi]; rfl
  · rw [List.getElem?_eq_none (by rw [cellsN_len]; omega), List.getElem?_eq_none (by simp; omega)]
/-- How many of the first k are of a bucket. -/
def cntA (d : Nat → Nat) (k i : Nat) : Nat := (part d (List.range k) i).length
theorem cntA_step (d : Nat → Nat) (M k : Nat) : (cellsN M (cntA d k)).set (d k) (.int .i64 ((cntA d k (d k) : Nat) + 1 : Int)) = cellsN M (cntA d (k + 1)) := by
  refine cellsN_set (v := cntA d k (d k) + 1) ?_ fun i _ hne => ?_
  · simp [cntA, part_range_succ]
  · unfold cntA
    rw [part_range_succ, if_neg (fun e => hne e.symm)]; rfl
theorem cntA_le (d : Nat → Nat) (k i : Nat) : cntA d k i ≤ k := by
  have := part_le d (List.range k) i
  simpa [cntA] using this
/-- The sums ahead of the sizes. -/
theorem pre_below (d : Nat → Nat) (n M : Nat) : ∀ k, k ≤ M → pre ((List.range M).map fun i => (cntA d n i : Int)) k = ((Go.Proofs.YtfkcopokeofjoaaGreat.below d (List.range n) k : Nat) : Int)
  | 0, _ => by rw [pre_zero, below_zero]; rfl
  | k + 1, hk => by
    rw [pre_succ _ (by simp; omega), pre_below d n M k (by omega), below_succ]
    simp [List.getD, show k < M by omega, cntA]
/-- Where the next one of a bucket goes. -/
def nxt (d : Nat → Nat) (n : Nat) (l : List Nat) (b : Nat) : Nat := Go.Proofs.YtfkcopokeofjoaaGreat.below d (List.range n) b + (part d l b).length
theorem nxt_zero (d : Nat → Nat) (n M : Nat) : cellsN M (nxt d n []) = cellsN M fun b => Go.Proofs.YtfkcopokeofjoaaGreat.below d (List.range n) b := cellsN_congr fun i _ => by unfold nxt; rfl
theorem nxt_step (d : Nat → Nat) (n M : Nat) (l : List Nat) (k : Nat) (hk : k < l.length) : (cellsN M (nxt d n (l.take k))).set (d (l.getD k 0)) (.int .i64 ((nxt d n (l.take k) (d (l.getD k 0)) : Nat) + 1 : Int)) = cellsN M (nxt d n (l.take (k + 1))) := by
  refine cellsN_set (v := nxt d n (l.take k) (d (l.getD k 0)) + 1) ?_ fun i _ hne => ?_
  · unfold nxt; rw [part_take_succ d l k _ hk, if_pos rfl, List.length_append]; rfl
  · unfold nxt; rw [part_take_succ d l k _ hk, if_neg (fun e => hne e.symm), List.append_nil]
theorem below_allM {d : Nat → Nat} {M : Nat} (hd : ∀ p, d p < M) (l : List Nat) : Go.Proofs.YtfkcopokeofjoaaGreat.below d l M = l.length := by
  induction l with
  | nil => 
    have : ∀ b, Go.Proofs.YtfkcopokeofjoaaGreat.below d [] b = 0 := fun b => by
      induction b with
      | zero => exact below_zero _ _
      | succ b ih => rw [below_succ, ih]; rfl
    rw [this]; rfl
  | cons x l ih =>
    have : ∀ b, Go.Proofs.YtfkcopokeofjoaaGreat.below d (x :: l) b = Go.Proofs.YtfkcopokeofjoaaGreat.below d l b + if d x < b then 1 else 0 := fun b => by
      induction b with
      | zero => rw [below_zero, below_zero]; simp
      | succ b ih =>
        rw [below_succ, below_succ, ih]
        by_cases h : d x = b
        · have e : part d (x :: l) b = x :: part d l b := by simp [part, h]
          rw [e, List.length_cons, if_neg (by omega), if_pos (by omega)]; omega
        · have e : part d (x :: l) b = part d l b := by simp [part, h]
          rw [e]
          by_cases h2 : d x < b
          · rw [if_pos h2, if_pos (by omega)]; omega
          · rw [if_neg h2, if_neg (by omega)]; omega
    rw [this, if_pos (hd x), ih, List.length_cons]
/-- Where the next place of a byte goes. -/
theorem nxt_lt {d : Nat → Nat} {M n : Nat} {l : List Nat} (hd : ∀ p, d p < M) (hl : l.Perm (List.range n)) {k : Nat} (hk : k < l.length) :
    nxt d n (l.take k) (d (l.getD k 0)) < n ∧ ∀ b, b < M → nxt d n (l.take k) b ≤ Go.Proofs.YtfkcopokeofjoaaGreat.below d (List.range n) (b + 1) := by
  have hpre : ∀ m b, (part d (l.take m) b).length ≤ (part d (List.range n) b).length := fun m b => by
    rw [← part_perm hl b]
    exact (List.Sublist.filter _ (List.take_sublist m l)).length_le
  have hall : Go.Proofs.YtfkcopokeofjoaaGreat.below d (List.range n) M = n := by rw [below_allM hd]; simp
  constructor
  · have h1 := hpre (k + 1) (d (l.getD k 0))
    rw [part_take_succ d l k _ hk, if_pos rfl, List.length_append] at h1
    have h2 := below_mono d (List.range n) (a := d (l.getD k 0) + 1) (b := M) (hd _)
    rw [below_succ, hall] at h2
    unfold nxt
    simp only [List.length_cons, List.length_nil] at h1
    omega
  · intro b hb
    have h1 := hpre k b
    unfold nxt
    rw [below_succ]
    omega
/-- What the row holds of which so many places are laid. -/
def LaidA {α : Type} (f : Nat → α) (d : Nat → Nat) (M n : Nat) (l : List Nat) (ts : List α) : Prop :=
  ∀ (b j p : Nat), b < M → (part d l b)[j]? = some p → ts[Go.Proofs.YtfkcopokeofjoaaGreat.below d (List.range n) b + j]? = some (f p)
theorem laidA_step {α : Type} {f : Nat → α} {d : Nat → Nat} {M n : Nat} {l : List Nat} (hd : ∀ p, d p < M) (hl : l.Perm (List.range n)) {k : Nat} (hk : k < l.length) {ts : List α} (htl : ts.length = n) (h : LaidA f d M n (l.take k) ts) :
    LaidA f d M n (l.take (k + 1)) (ts.set (nxt d n (l.take k) (d (l.getD k 0))) (f (l.getD k 0))) := by
  intro b j p hb hp
  obtain ⟨hlt, hle⟩ := nxt_lt hd hl hk
  rw [part_take_succ d l k b hk] at hp
  rw [List.getElem?_set, htl, if_pos hlt]
  by_cases hbe : d (l.getD k 0) = b
  · rw [if_pos hbe] at hp
    rcases Nat.lt_or_ge j (part d (l.take k) b).length with hj | hj
    · rw [List.getElem?_append_left hj] at hp
      rw [if_neg (by unfold nxt; rw [hbe]; omega)]
      exact h b j p hb hp
    · rw [List.getElem?_append_right hj] at hp
      have hj2 : j = (part d (l.take k) b).length := by
        have := (List.getElem?_eq_some_iff.1 hp).1
        simp only [List.length_cons, List.length_nil] at this
        omega
      subst hj2
      simp only [Nat.sub_self, List.getElem?_cons_zero, Option.some.injEq] at hp
      rw [if_pos (by unfold nxt; rw [hbe]), hp]
  · rw [if_neg hbe, List.append_nil] at hp
    have hj := (List.getElem?_eq_some_iff.1 hp).1
    rw [if_neg]
    · exact h b j p hb hp
    · intro e
      have h1 : nxt d n (l.take k) (d (l.getD k 0)) = Go.Proofs.YtfkcopokeofjoaaGreat.below d (List.range n) b + j := e
      have h2 := hle b hb
      unfold nxt at h2
      have h3 : Go.Proofs.YtfkcopokeofjoaaGreat.below d (List.range n) (d (l.getD k 0)) ≤ nxt d n (l.take k) (d (l.getD k 0)) := by unfold nxt; omega
      have h4 : nxt d n (l.take (k + 1)) (d (l.getD k 0)) ≤ Go.Proofs.YtfkcopokeofjoaaGreat.below d (List.range n) (d (l.getD k 0) + 1) := by
        have hpre : (part d (l.take (k + 1)) (d (l.getD k 0))).length ≤ (part d (List.range n) (d (l.getD k 0))).length := by
          rw [← part_perm hl _]
          exact (List.Sublist.filter _ (List.take_sublist _ l)).length_le
        unfold nxt
        rw [below_succ]
        omega
      have h5 : nxt d n (l.take (k + 1)) (d (l.getD k 0)) = nxt d n (l.take k) (d (l.getD k 0)) + 1 := by
        unfold nxt; rw [part_take_succ d l k _ hk, if_pos rfl, List.length_append]; rfl
      have h6 : Go.Proofs.YtfkcopokeofjoaaGreat.below d (List.range n) b + j < Go.Proofs.YtfkcopokeofjoaaGreat.below d (List.range n) (b + 1) := by
        have : (part d (l.take k) b).length ≤ (part d (List.range n) b).length := by
          rw [← part_perm hl b]
          exact (List.Sublist.filter _ (List.take_sublist _ l)).length_le
        rw [below_succ]
        omega
      rcases Nat.lt_or_ge (d (l.getD k 0)) b with h7 | h7
      · have := below_mono d (List.range n) (a := d (l.getD k 0) + 1) (b := b) h7
        omega
      · have := below_mono d (List.range n) (a := b + 1) (b := d (l.getD k 0)) (by omega)
        omega
theorem laidA_all {α : Type} {f : Nat → α} {d : Nat → Nat} {M n : Nat} {l : List Nat} (hd : ∀ p, d p < M) (hl : l.Perm (List.range n)) {ts : List α} (htl : ts.length = n) (h : LaidA f d M n l ts) : ts = (sorted d l M).map f := by
  have hall : Go.Proofs.YtfkcopokeofjoaaGreat.below d l M = n := by rw [below_allM hd, hl.length_eq]; simp
  apply List.ext_getElem?
  intro i
  by_cases hi : i < n
  · obtain ⟨b, j, hb, hj, rfl⟩ := place_of d l M i (by omega)
    have h1 := h b j _ hb (List.getElem?_eq_getElem hj)
    rw [← below_perm hl] at h1
    rw [h1, List.getElem?_map, sorted_at d l M b j hb hj, List.getElem?_eq_getElem hj]; rfl
  · rw [List.getElem?_eq_none (by omega), List.getElem?_eq_none]
    rw [List.length_map]
    show Go.Proofs.YtfkcopokeofjoaaGreat.below d l M ≤ i
    omega
end Go.Proofs.YtfkcopokeofjoaaGreat
