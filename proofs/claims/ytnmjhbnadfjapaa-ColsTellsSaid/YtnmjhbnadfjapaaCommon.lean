/-
  LISTS OF NUMBERS, where there are no sets.
-/
import Derived.Test.YtnmjhbnadfjapaaRec
import Derived.Laws.BitsAllLaws
import Derived.Laws.BitsLemmas
import Derived.Laws.Rows
import Derived.Laws.MakeOwn
import Derived.Laws.OwnMore
import Derived.Laws.CopyOwn
import Derived.BigQuiet
import Derived.Deep.LoopGhost
namespace Go.Proofs.Ytnmjhbnadfjapaa
open Go.ChangeShapes Go.WideShapes Go.ChangeAt Go.RowKit

/-- All blocks but these lie as they lay. -/
structure Save (S : List Nat) (w w' : World) : Prop where
  os : w'.os = w.os
  tape : w'.tape = w.tape
  output : w'.output = w.output
  size : w.heap.size ≤ w'.heap.size
  block : ∀ k, k < w.heap.size → k ∉ S → w'.heap[k]? = w.heap[k]?
theorem Save.refl (S : List Nat) (w : World) : Save S w w := ⟨rfl, rfl, rfl, Nat.le_refl _, fun _ _ _ => rfl⟩
theorem Save.trans {S : List Nat} {a b c : World} (h : Save S a b) (h' : Save S b c) : Save S a c :=
  ⟨h'.os.trans h.os, h'.tape.trans h.tape, h'.output.trans h.output, Nat.le_trans h.size h'.size, fun k hk hS => (h'.block k (Nat.lt_of_lt_of_le hk h.size) hS).trans (h.block k hk hS)⟩
theorem Save.of_below {S : List Nat} {w w' : World} (h : Below w.heap.size w w') : Save S w w' := ⟨h.os, h.tape, h.output, h.size, fun k hk _ => h.block k hk⟩
theorem Save.below {S : List Nat} {B : Nat} {w w' : World} (h : Save S w w') (hB : B ≤ w.heap.size) (hS : ∀ k ∈ S, B ≤ k) : Below B w w' :=
  ⟨h.os, h.tape, h.output, h.size, fun k hk => h.block k (by omega) fun hm => by have := hS k hm; omega⟩
theorem Save.mono {S S' : List Nat} {w w' : World} (h : Save S w w') (hS : ∀ k ∈ S, k ∈ S') : Save S' w w' := ⟨h.os, h.tape, h.output, h.size, fun k hk hn => h.block k hk fun hm => hn (hS k hm)⟩
theorem getD_set (ws : List Nat) (i j x : Nat) (hi : i < ws.length) : (ws.set i x).getD j 0 = if i = j then x else ws.getD j 0 := by
  rw [List.getD_eq_getElem?_getD, List.getD_eq_getElem?_getD, List.getElem?_set]
  by_cases h : i = j
  · subst h; simp [hi]
  · simp [h]
def good (n : Int) : Bool := decide (0 ≤ n) && decide (n < 65536)
theorem take_snocI (zs : List Int) (k : Nat) (hk : k < zs.length) : zs.take (k + 1) = zs.take k ++ [zs.getD k 0] := by
  rw [List.take_add_one, List.getElem?_eq_getElem hk]; simp [List.getD, hk]
def inL (zs : List Int) (k : Nat) : Bool := zs.any fun z => good z && k == z.toNat
theorem heap_set {x : World} {b : Nat} {cs : Array Value} {t : TypeId} (h : x.heap[b]? = some (.cells cs t)) (j : Nat) (v : Value) : (x.setCell ⟨b, j, none⟩ v).heap[b]? = some (.cells (cs.setIfInBounds j v) t) := by
  simp [World.setCell, Array.getElem?_modify, h]
theorem infoI : (Try.prog.info? 3).map (fun i => (i.zero, i.size, i.bytes)) = some (some (.int .i64 0), 1, 8) := by kernel_rfl
theorem owns_below {w w' : World} {base : Nat} {e : TypeId} {size : Nat} {v : Value} {n : Nat} {xs : List Value} (h : w.ownsRow base e size v n xs) (hB : Below w.heap.size w w') : w'.ownsRow base e size v n xs := by
  obtain ⟨hl, h⟩ := h
  refine ⟨hl, ?_⟩
  rcases h with h | ⟨g, cap, cur, e1, hg, hcell, r⟩
  · exact .inl h
  · exact .inr ⟨g, cap, cur, e1, hg, (hB.block g (Array.getElem?_eq_some_iff.1 hcell).1).trans hcell, r⟩
def ints (xs : List Nat) : List Value := xs.map fun (x : Nat) => Value.int .i64 (x : Int)
end Go.Proofs.Ytnmjhbnadfjapaa
/-
  A SLICE OF SLICES CLONED, by contract.
-/
namespace Go.Proofs.Ytnmjhbnadfjapaa
open Go.ChangeShapes Go.WideShapes Go.ChangeAt Go.RowKit

theorem infoRow : (Try.prog.info? 47).map (fun i => (i.zero, i.size, i.bytes)) = some (some (.slice none 0 0), 1, 24) := by kernel_rfl
set_option maxRecDepth 20000 in
set_option maxHeartbeats 800000 in
theorem clone_c (g og cap : Nat) (rows : List Value) (w : World) (h : Sl w (.slice (some ⟨g, og, none⟩) rows.length cap) rows) (hc1 : ∀ u ∈ rows, u.oneCell' = true) (hl : rows.length ≤ 1000) :
    Calls Try.prog 56 #[.slice (some ⟨g, og, none⟩) rows.length cap] w fun e w' =>
      ∃ c k, e = .returned (.slice (some ⟨c, 0, none⟩) rows.length k) ∧ w'.ownsRow w.heap.size 47 1 (.slice (some ⟨c, 0, none⟩) rows.length k) rows.length rows ∧ Below w.heap.size w w' := by
  obtain ⟨i0, hi, hz0, hz1, hz2⟩ := info_parts infoRow
  have hne : ∀ x : World, Sem.run Try.prog (binOp BinOp.eql 106 (.slice (some ⟨g, og, none⟩) rows.length cap) (.slice none 0 0)) x = .ok (.bool false) x := fun x => by rfl
  go_enter Try.func56, Try.ntmps56
  have hw := (Below.refl w.heap.size w).alloc (Nat.le_refl _) (.cells #[] 47)
  have hown := World.ownsRow_made (base := w.heap.size) (e := 47) (size := 1) w #[] 0 (Nat.le_refl _) (by unfold maxLen; omega) rfl
  have hsz : w.heap.size ≤ (w.alloc (.cells #[] 47)).heap.size := hw.size
  replace hw := hidden hw
  replace hown := hidden hown
  replace hsz := hidden hsz
  go_wp2_with (at_builtin; refine wpList_app rfl _ _ 106 rfl w.heap.size 47 i0 (.slice none 0 0) 24 Try.underlying106 hi hz0 hz1 hz2 rfl (by rfl) hown.out (by rfl) (h.below hw.out) hc1 (by unfold maxLen; omega) (by omega) hsz.out ?_; intro v1 w1 hown1 hgrow1 hsm1)
  have hB1 := hw.out.grown hgrow1 hsz.out (fun j hj => (hown.out.lt j hj).1)
  have hne1 : v1 ≠ .slice none 0 0 := fun h => by have := hsm1 h; cases this
  obtain ⟨c, k, rfl, -, -⟩ := own_some hown1 hne1
  have hfin := hidden hown1
  have hfb := hidden hB1
  clear hown1 hgrow1 hsm1 hB1 hw hown hsz
  go_wp2
  go_ret
  refine ⟨c, k, ?_, ?_, hfb.out⟩
  · simp
  · simpa using hfin.out
end Go.Proofs.Ytnmjhbnadfjapaa
/-
  RISING LISTS AS THE NUMBERS OF WHICH SOMETHING HOLDS: mathematics alone.
-/
namespace Go.Proofs.Ytnmjhbnadfjapaa
open Go.ChangeShapes Go.WideShapes Go.ChangeAt Go.RowKit

def L (p : Nat → Bool) : List Nat := (List.range 65536).filter p
def lowL (p : Nat → Bool) (m : Nat) : List Nat := (List.range m).filter p
def highL (p : Nat → Bool) (m : Nat) : List Nat := (List.range' (m + 1) (65536 - m - 1)).filter p
theorem range_split (N m : Nat) (hm : m < N) : List.range N = List.range m ++ m :: (List.range' (m + 1) (N - m - 1)) := by
  rw [List.range_eq_range', List.range_eq_range']
  conv => lhs; rw [show N = m + (1 + (N - m - 1)) by omega, ← List.range'_append_1, Nat.zero_add, ← List.range'_append_1 (m := 1)]
  simp
theorem L_split (p : Nat → Bool) (m : Nat) (hm : m < 65536) : L p = lowL p m ++ ((if p m then [m] else []) ++ highL p m) := by
  unfold L lowL highL
  generalize 65536 = N at *
  rw [range_split N m hm, List.filter_append, List.filter_cons]
  congr 1
  cases p m <;> rfl
theorem mem_L {p : Nat → Bool} {k : Nat} : k ∈ L p ↔ k < 65536 ∧ p k = true := by simp [L]
theorem L_congr {p q : Nat → Bool} (h : ∀ k, p k = q k) : L p = L q := by
  have : p = q := funext h
  rw [this]
theorem L_len (p : Nat → Bool) : (L p).length ≤ 65536 := by
  have := List.length_filter_le p (List.range 65536)
  simpa [L] using this
theorem low_congr {p q : Nat → Bool} {m : Nat} (h : ∀ k, k ≠ m → p k = q k) : lowL p m = lowL q m := List.filter_congr fun k hk => h k (by have := List.mem_range.1 hk; omega)
theorem high_congr {p q : Nat → Bool} {m : Nat} (h : ∀ k, k ≠ m → p k = q k) : highL p m = highL q m := List.filter_congr fun k hk => h k (by have := List.mem_range'_1.1 hk; omega)
/-- What is said of the place of a number in a list. -/
structure Place (xs : List Nat) (n : Int) (j : Nat) : Prop where
  le : j ≤ xs.length
  low : ∀ i, i < j → ((xs.getD i 0 : Nat) : Int) < n
  high : j < xs.length → n ≤ ((xs.getD j 0 : Nat) : Int)
theorem place_at {A D : List Nat} {m j : Nat} (hA : ∀ a ∈ A, a < m) (hD : ∀ d ∈ D, m ≤ d) (h : Place (A ++ D) m j) : j = A.length := by
  have hle := h.le
  rw [List.length_append] at hle
  rcases Nat.lt_trichotomy j A.length with h1 | h1 | h1
  · have h2 := h.high (by rw [List.length_append]; omega)
    have e : (A ++ D).getD j 0 = A[j] := by rw [List.getD_eq_getElem?_getD, List.getElem?_append_left h1, List.getElem?_eq_getElem h1]; rfl
    rw [e] at h2
    have := hA _ (List.getElem_mem h1)
    omega
  · exact h1
  · have h2 := h.low A.length h1
    have hd : 0 < D.length := by omega
    have e : (A ++ D).getD A.length 0 = D[0] := by rw [List.getD_eq_getElem?_getD, List.getElem?_append_right (Nat.le_refl _), Nat.sub_self, List.getElem?_eq_getElem hd]; rfl
    rw [e] at h2
    have := hD _ (List.getElem_mem hd)
    omega
theorem low_lt {p : Nat → Bool} {m : Nat} : ∀ a ∈ lowL p m, a < m := fun a ha => by
  simp only [lowL, List.mem_filter, List.mem_range] at ha; exact ha.1
theorem high_ge {p : Nat → Bool} {m : Nat} : ∀ a ∈ ((if p m then [m] else []) ++ highL p m), m ≤ a := fun a ha => by
  rcases List.mem_append.1 ha with h | h
  · split at h <;> simp at h; omega
  · simp only [highL, List.mem_filter, List.mem_range'_1] at h; omega
/-- Whether a number stands at its place. -/
def isAt (xs : List Nat) (n : Int) (j : Nat) : Bool := decide (j < xs.length) && decide (((xs.getD j 0 : Nat) : Int) = n)
theorem isAt_mem {xs : List Nat} {n : Int} {j : Nat} (h : isAt xs n j = true) : ∃ m : Nat, n = m ∧ m ∈ xs := by
  simp only [isAt, Bool.and_eq_true, decide_eq_true_eq] at h
  obtain ⟨h1, h2⟩ := h
  refine ⟨xs.getD j 0, h2.symm, ?_⟩
  have e : xs.getD j 0 = xs[j] := by simp [h1]
  rw [e]; exact List.getElem_mem h1
theorem isAt_L {p : Nat → Bool} {n : Int} {j : Nat} (h : Place (L p) n j) : isAt (L p) n j = (good n && p n.toNat) := by
  by_cases hg : good n = true
  · simp only [good, Bool.and_eq_true, decide_eq_true_eq] at hg
    obtain ⟨m, rfl⟩ := Int.eq_ofNat_of_zero_le hg.1
    have hm : m < 65536 := by omega
    have hgm : good (m : Int) = true := by simp [good]; omega
    rw [hgm, Bool.true_and, Int.toNat_natCast]
    rw [L_split p m hm] at h ⊢
    have hj := place_at low_lt high_ge h
    cases hp : p m with
    | true =>
      simp [isAt, hj]
    | false =>
      cases hi : isAt (lowL p m ++ ((if false then [m] else []) ++ highL p m)) m j with
      | false => simp
      | true =>
        exfalso
        obtain ⟨m', e, hmem⟩ := isAt_mem hi
        have : m' = m := by omega
        subst this
        rw [show lowL p m' ++ ((if false then [m'] else []) ++ highL p m') = L p by rw [L_split p m' hm, hp]] at hmem
        rw [mem_L, hp] at hmem
        cases hmem.2
  · have hg' : good n = false := by simpa using hg
    rw [hg', Bool.false_and]
    cases hi : isAt (L p) n j with
    | false => rfl
    | true =>
      exfalso
      obtain ⟨m, rfl, hmem⟩ := isAt_mem hi
      have := (mem_L.1 hmem).1
      apply hg; simp [good]; omega
theorem L_put {p : Nat → Bool} {m j : Nat} (hm : m < 65536) (hp : p m = false) (h : Place (L p) m j) : (L p).take j ++ [m] ++ (L p).drop j = L fun k => p k || k == m := by
  have hq : ∀ k, k ≠ m → p k = (p k || k == m) := fun k hk => by simp [hk]
  rw [L_split p m hm, hp] at h ⊢
  simp only [Bool.false_eq_true, if_false, List.nil_append] at h ⊢
  have hj := place_at low_lt (fun d hd => high_ge (p := p) d (by rw [hp]; simpa using hd)) h
  rw [L_split (fun k => p k || k == m) m hm, hj, List.take_left, List.drop_left, ← low_congr hq, ← high_congr hq]
  simp
theorem L_cut {p : Nat → Bool} {m j : Nat} (hm : m < 65536) (hp : p m = true) (h : Place (L p) m j) : (L p).take j ++ (L p).drop (j + 1) = L fun k => p k && !(k == m) := by
  have hq : ∀ k, k ≠ m → p k = (p k && !(k == m)) := fun k hk => by simp [hk]
  rw [L_split p m hm, hp] at h ⊢
  simp only [if_true] at h ⊢
  have hj := place_at low_lt (fun d hd => high_ge (p := p) d (by rw [hp]; simpa using hd)) h
  rw [L_split (fun k => p k && !(k == m)) m hm, hj, List.take_left, ← List.drop_drop, List.drop_left, ← low_congr hq, ← high_congr hq]
  simp
/-! ### The numbers of a set -/
end Go.Proofs.Ytnmjhbnadfjapaa
/-
  RISING LISTS, as the reference looks for a number, puts one in, takes one out, and makes one of any numbers: by contract.
-/
namespace Go.Proofs.Ytnmjhbnadfjapaa
open Go.ChangeShapes Go.WideShapes Go.ChangeAt Go.RowKit

theorem ints_len (xs : List Nat) : (ints xs).length = xs.length := by simp [ints]
theorem ints_at (xs : List Nat) (k : Nat) (hk : k < xs.length) : (ints xs)[k]? = some (.int .i64 ((xs.getD k 0 : Nat) : Int)) := by simp [ints, hk]
/-- A list in memory from B on, which is not nil. -/
def SlS (B : Nat) (w : World) (v : Value) (xs : List Nat) : Prop := ∃ g og cap, v = .slice (some ⟨g, og, none⟩) xs.length cap ∧ B ≤ g ∧ Sl w v (ints xs)
theorem SlS.below {B : Nat} {w w' : World} {v : Value} {xs : List Nat} (h : SlS B w v xs) (hb : Below w.heap.size w w') : SlS B w' v xs := by
  obtain ⟨g, og, cap, h1, h0, h2⟩ := h
  exact ⟨g, og, cap, h1, h0, h2.below hb⟩
theorem SlS.holds {B : Nat} {w : World} {v : Value} {xs : List Nat} (h : SlS B w v xs) : Holds w v (ints xs) := by
  obtain ⟨g, og, cap, h1, h0, h2⟩ := h
  exact h2.holds
theorem SlS.save {B : Nat} {S : List Nat} {w w' : World} {v : Value} {xs : List Nat} (h : SlS B w v xs) (hs : Save S w w') (hS : ∀ k ∈ S, k < B) : SlS B w' v xs := by
  obtain ⟨g, og, cap, rfl, h0, a, cap2, h1, h2, h3, h4, h5⟩ := h
  refine ⟨g, og, cap, rfl, h0, a, cap2, h1, h2, h3, h4, ?_⟩
  have hg : g ∉ S := fun hm => by have := hS g hm; omega
  rcases h5 with h5 | ⟨b, off, h6, h7, h8⟩
  · exact .inl h5
  · subst h6
    simp only [Value.slice.injEq, Option.some.injEq, Addr.mk.injEq] at h1
    obtain ⟨⟨rfl, _, _⟩, _⟩ := h1
    refine .inr ⟨g, off, rfl, Nat.lt_of_lt_of_le h7 hs.size, fun j u hj => ?_⟩
    exact (World.cell?_of_block (hs.block g h7 hg)).trans (h8 j u hj)
theorem ints_cells (xs : List Nat) : ∀ u ∈ ints xs, u.oneCell' = true := fun u hu => by
  simp only [ints, List.mem_map] at hu
  obtain ⟨x, _, rfl⟩ := hu
  rfl
theorem slS_of {w : World} {B B' : Nat} {e : TypeId} {v : Value} {n : Nat} {xs : List Nat} (h : w.ownsRow B e 1 v n (ints xs)) (hv : v ≠ .slice none 0 0) (hB : B' ≤ B) : SlS B' w v xs := by
  obtain ⟨g, c, rfl, hg, _⟩ := own_some h hv
  have hl := h.1
  rw [ints_len, Nat.mul_one] at hl
  exact ⟨g, 0, c, by rw [hl], Nat.le_trans hB hg, sl_of_owns h⟩
theorem L_none : L (fun _ => false) = [] := List.filter_eq_nil_iff.2 fun _ _ => by simp
end Go.Proofs.Ytnmjhbnadfjapaa
/-
  TWO RISING LISTS TOGETHER, AND THOSE OF ONE THAT ARE IN THE OTHER OR ARE NOT, as the reference makes them: by contract.
-/
namespace Go.Proofs.Ytnmjhbnadfjapaa
open Go.ChangeShapes Go.WideShapes Go.ChangeAt Go.RowKit

theorem L_congr_on {p q : Nat → Bool} (h : ∀ k, k < 65536 → p k = q k) : L p = L q := List.filter_congr fun k hk => h k (List.mem_range.1 hk)
theorem take_snocN (ys : List Nat) (j : Nat) (hj : j < ys.length) : ys.take (j + 1) = ys.take j ++ [ys.getD j 0] := by
  rw [List.take_add_one, List.getElem?_eq_getElem hj]; simp [List.getD, hj]
theorem contains_L (q : Nat → Bool) (k : Nat) (hk : k < 65536) : (L q).contains k = q k := by
  rw [Bool.eq_iff_iff, List.contains_iff_mem, mem_L]
  exact ⟨fun h => h.2, fun h => ⟨hk, h⟩⟩
theorem L_getD {q : Nat → Bool} {j : Nat} (hj : j < (L q).length) : (L q).getD j 0 < 65536 := by
  have e : (L q).getD j 0 = (L q)[j] := by rw [List.getD_eq_getElem?_getD, List.getElem?_eq_getElem hj]; rfl
  rw [e]; exact (mem_L.1 (List.getElem_mem hj)).1
theorem or_more (p : Nat → Bool) (ys : List Nat) (j : Nat) (hj : j < ys.length) (hy : ys.getD j 0 < 65536) :
    (L fun k => (p k || (ys.take j).contains k) || (good ((ys.getD j 0 : Nat) : Int) && k == (((ys.getD j 0 : Nat) : Int)).toNat)) = L fun k => p k || (ys.take (j + 1)).contains k := by
  have hg : good ((ys.getD j 0 : Nat) : Int) = true := by
    simp only [good, Bool.and_eq_true, decide_eq_true_eq]; omega
  rw [take_snocN _ _ hj, hg]
  apply L_congr
  intro k
  rw [Int.toNat_natCast, Bool.true_and]
  clear hy hg
  generalize ys.getD j 0 = y
  generalize ys.take j = t
  rw [Bool.or_assoc]
  congr 1
  rw [Bool.eq_iff_iff]
  simp
/-- One more of the other list. -/
theorem or_step (p q : Nat → Bool) (j : Nat) (hj : j < (L q).length) :
    (L fun k => (p k || ((L q).take j).contains k) || (good (((L q).getD j 0 : Nat) : Int) && k == ((((L q).getD j 0 : Nat) : Int)).toNat)) = L fun k => p k || ((L q).take (j + 1)).contains k :=
  or_more p (L q) j hj (L_getD hj)
theorem or_end (p q : Nat → Bool) : (L fun k => p k || ((L q).take (L q).length).contains k) = L fun k => p k || q k := by
  rw [List.take_length]
  exact L_congr_on fun k hk => by rw [contains_L q k hk]
theorem or_zero (p q : Nat → Bool) : (L fun k => p k || ((L q).take 0).contains k) = L p := L_congr fun k => by rw [List.take_zero]; simp
end Go.Proofs.Ytnmjhbnadfjapaa
/-
  THOSE OF ONE RISING LIST THAT ARE IN ANOTHER ONE, OR ARE NOT, as the reference picks them: by contract.
-/
namespace Go.Proofs.Ytnmjhbnadfjapaa
open Go.ChangeShapes Go.WideShapes Go.ChangeAt Go.RowKit

theorem pick_end (p r : Nat → Bool) : (L p).filter r = L fun k => p k && r k := by
  rw [L, L, List.filter_filter]
  exact List.filter_congr fun k _ => Bool.and_comm _ _
theorem ints_snoc (xs : List Nat) (y : Nat) : ints (xs ++ [y]) = ints xs ++ [.int .i64 (y : Int)] := by simp [ints]
theorem isAt_in {q : Nat → Bool} {y j : Nat} (hy : y < 65536) (h : Place (L q) (y : Int) j) : isAt (L q) (y : Int) j = q y := by
  rw [isAt_L h]
  have hg : good (y : Int) = true := by simp only [good, Bool.and_eq_true, decide_eq_true_eq]; omega
  rw [hg, Int.toNat_natCast, Bool.true_and]
end Go.Proofs.Ytnmjhbnadfjapaa
/-
  WHAT IS LEFT OF SOME RISING LISTS, in a row that was cloned.
-/
namespace Go.Proofs.Ytnmjhbnadfjapaa
open Go.ChangeShapes Go.WideShapes Go.ChangeAt Go.RowKit

/-- The row in block c: its first N cells are slices that hold what is left of each list; the numbers lie where they lay in w0. -/
structure Rests (w0 w : World) (c N : Nat) (Y : Nat → List Nat) : Prop where
  lies : ∃ cs, w.heap[c]? = some (.cells cs 47) ∧ N ≤ cs.size ∧ ∀ i, i < N → ∃ v, cs[i]? = some v ∧ Sl w0 v (ints (Y i))
  low : w0.heap.size ≤ c
theorem Rests.get {w0 w : World} {c N : Nat} {Y : Nat → List Nat} (h : Rests w0 w c N Y) (i : Nat) (hi : i < N) :
    ∃ a cap, w.cell? ⟨c, i, none⟩ = some (.slice a (Y i).length cap) ∧ w.frozen? ⟨c, i, none⟩ = false ∧ Sl w0 (.slice a (Y i).length cap) (ints (Y i)) := by
  obtain ⟨cs, hc, hN, hcs⟩ := h.lies
  obtain ⟨v, hv, hs⟩ := hcs i hi
  have hs2 := hs
  obtain ⟨a, cap, rfl, -⟩ := hs2
  rw [ints_len] at hv hs
  exact ⟨a, cap, by simp [World.cell?, hc, hv], by simp [World.frozen?, hc], hs⟩
theorem grownBy_set (w : World) (c i : Nat) (v : Value) : w.grownBy (w.setCell ⟨c, i, none⟩ v) (some c) :=
  ⟨rfl, rfl, rfl, by simp [World.setCell], fun k _ hne => by
    have : c ≠ k := fun e => hne (by rw [e])
    simp [World.setCell, Array.getElem?_modify, this]⟩
theorem Rests.set {w0 w : World} {c N : Nat} {Y : Nat → List Nat} (h : Rests w0 w c N Y) (i : Nat) (v : Value) (z : List Nat) (hv : Sl w0 v (ints z)) :
    Rests w0 (w.setCell ⟨c, i, none⟩ v) c N (fun j => if j = i then z else Y j) := by
  obtain ⟨cs, hc, hN, hcs⟩ := h.lies
  refine ⟨⟨cs.setIfInBounds i v, heap_set hc i v, by simpa using hN, fun j hj => ?_⟩, h.low⟩
  by_cases e : j = i
  · subst e
    refine ⟨v, ?_, by simpa using hv⟩
    simp [show j < cs.size by omega]
  · obtain ⟨u, hu, hs⟩ := hcs j hj
    refine ⟨u, ?_, by simpa [e] using hs⟩
    rw [Array.getElem?_setIfInBounds_ne (by omega)]
    exact hu
theorem Rests.grown {w0 w w' : World} {c N : Nat} {Y : Nat → List Nat} {row : Option Nat} (h : Rests w0 w c N Y) (hg : w.grownBy w' row) (hne : row ≠ some c) : Rests w0 w' c N Y := by
  obtain ⟨cs, hc, r⟩ := h.lies
  exact ⟨⟨cs, (hg.block c (Array.getElem?_eq_some_iff.1 hc).1 (fun e => hne e.symm)).trans hc, r⟩, h.low⟩
theorem Rests.congr {w0 w : World} {c N : Nat} {Y Z : Nat → List Nat} (h : Rests w0 w c N Y) (e : ∀ i, i < N → Y i = Z i) : Rests w0 w c N Z := by
  obtain ⟨cs, hc, hN, hcs⟩ := h.lies
  exact ⟨⟨cs, hc, hN, fun i hi => by rw [← e i hi]; exact hcs i hi⟩, h.low⟩
theorem rests_of {w0 w : World} {c k : Nat} {rows : List Value} {Y : Nat → List Nat} (h : w.ownsRow w0.heap.size 47 1 (.slice (some ⟨c, 0, none⟩) rows.length k) rows.length rows)
    (hY : ∀ i v, rows[i]? = some v → Sl w0 v (ints (Y i))) : Rests w0 w c rows.length Y := by
  obtain ⟨hl, h⟩ := h
  rcases h with ⟨h, _⟩ | ⟨g, cap, cur, e1, hg, hcell, h1, h2, h3, h4⟩
  · cases h
  · cases e1
    rw [Nat.mul_one] at h3 h4
    refine ⟨⟨cur, hcell, by omega, fun i hi => ?_⟩, hg⟩
    have hr : rows[i]? = some rows[i] := List.getElem?_eq_getElem hi
    refine ⟨rows[i], ?_, hY i _ hr⟩
    rw [← hr, ← Array.getElem?_toList]
    have : (cur.toList.take rows.length)[i]? = rows[i]? := by rw [h4]
    rw [List.getElem?_take_of_lt hi] at this
    exact this
end Go.Proofs.Ytnmjhbnadfjapaa
/-
  WHAT SOME RISING LISTS HAVE IN COMMON: mathematics alone.
-/
namespace Go.Proofs.Ytnmjhbnadfjapaa

/-- Whether all of the lists have a number. -/
def rowF (q : Nat → Nat → Bool) (N : Nat) (x : Nat) : Bool := (List.range N).all fun i => q i x
theorem rowF_true {q : Nat → Nat → Bool} {N x : Nat} : rowF q N x = true ↔ ∀ i, i < N → q i x = true := by simp [rowF]
theorem rowF_false {q : Nat → Nat → Bool} {N x i : Nat} (hi : i < N) (h : q i x = false) : rowF q N x = false := by
  rw [Bool.eq_false_iff]
  intro h2
  have := rowF_true.1 h2 i hi
  rw [h] at this; cases this
theorem L_rise {p : Nat → Bool} {j k : Nat} (h : j < k) (hk : k < (L p).length) : (L p).getD j 0 < (L p).getD k 0 := by
  have hs : (L p).Pairwise (· < ·) := List.Pairwise.filter _ List.pairwise_lt_range
  rw [List.getD_eq_getElem?_getD, List.getD_eq_getElem?_getD, List.getElem?_eq_getElem hk, List.getElem?_eq_getElem (by omega)]
  exact List.pairwise_iff_getElem.1 hs j k (by omega) hk h
/-- What is dropped of each list lies below all that is to come. -/
def Lows (Y : Nat → List Nat) (N : Nat) (d : Nat → Nat) (X : List Nat) (k : Nat) : Prop :=
  ∀ i, i < N → d i ≤ (Y i).length ∧ ∀ j, j < d i → ∀ k', k ≤ k' → k' < X.length → (Y i).getD j 0 < X.getD k' 0
theorem Lows.next {Y : Nat → List Nat} {N : Nat} {d : Nat → Nat} {X : List Nat} {k : Nat} (h : Lows Y N d X k) : Lows Y N d X (k + 1) :=
  fun i hi => ⟨(h i hi).1, fun j hj k' hk => (h i hi).2 j hj k' (by omega)⟩
theorem Lows.more {q : Nat → Nat → Bool} {N : Nat} {d : Nat → Nat} {p : Nat → Bool} {k : Nat} (h : Lows (fun i => L (q i)) N d (L p) k) (i : Nat) (hd : d i < (L (q i)).length) (hlt : (L (q i)).getD (d i) 0 < (L p).getD k 0) :
    Lows (fun i => L (q i)) N (fun j => if j = i then d i + 1 else d j) (L p) k := by
  intro i' hi'
  by_cases e : i' = i
  · subst e
    refine ⟨by simp; omega, fun j hj k' h1 h2 => ?_⟩
    simp only [if_true] at hj
    by_cases hj2 : j < d i'
    · exact (h i' hi').2 j hj2 k' h1 h2
    · obtain rfl : j = d i' := by omega
      rcases Nat.eq_or_lt_of_le h1 with rfl | h1
      · exact hlt
      · exact Nat.lt_trans hlt (L_rise h1 h2)
  · simp only [e, if_false]
    exact h i' hi'
theorem Lows.place {q : Nat → Nat → Bool} {N : Nat} {d : Nat → Nat} {X : List Nat} {k i : Nat} (h : Lows (fun i => L (q i)) N d X k) (hk : k < X.length) (hi : i < N) (hend : d i < (L (q i)).length → X.getD k 0 ≤ (L (q i)).getD (d i) 0) :
    Place (L (q i)) ((X.getD k 0 : Nat) : Int) (d i) :=
  ⟨(h i hi).1, fun j hj => by have : (L (q i)).getD j 0 < X.getD k 0 := (h i hi).2 j hj k (Nat.le_refl _) hk; omega, fun hd => by have := hend hd; omega⟩
theorem place_yes {q : Nat → Bool} {x j : Nat} (hx : x < 65536) (h : Place (L q) (x : Int) j) (hj : j < (L q).length) (he : (L q).getD j 0 = x) : q x = true := by
  rw [← isAt_in hx h]
  unfold isAt
  rw [he, decide_eq_true hj]
  simp
theorem place_no {q : Nat → Bool} {x j : Nat} (hx : x < 65536) (h : Place (L q) (x : Int) j) (he : (L q).getD j 0 ≠ x) : q x = false := by
  rw [← isAt_in hx h]
  have : ¬ (((L q).getD j 0 : Nat) : Int) = (x : Int) := by omega
  unfold isAt
  rw [decide_eq_false this, Bool.and_false]
theorem filter_snoc (X : List Nat) (F : Nat → Bool) (k : Nat) (hk : k < X.length) : (X.take (k + 1)).filter F = (X.take k).filter F ++ (if F (X.getD k 0) then [X.getD k 0] else []) := by
  rw [take_snocN _ _ hk, List.filter_append]
  generalize X.getD k 0 = x
  cases h : F x <;> simp [h]
theorem filter_done {q : Nat → Nat → Bool} {N : Nat} {d : Nat → Nat} {p : Nat → Bool} {k i : Nat} (h : Lows (fun i => L (q i)) N d (L p) k) (hi : i < N) (hd : (L (q i)).length ≤ d i) :
    ((L p).take k).filter (rowF q N) = (L p).filter (rowF q N) := by
  have e : ((L p).drop k).filter (rowF q N) = [] := by
    rw [List.filter_eq_nil_iff]
    intro x hx hF
    obtain ⟨m, hm, rfl⟩ := List.getElem_of_mem hx
    rw [List.length_drop] at hm
    rw [List.getElem_drop] at hF
    have hkm : k + m < (L p).length := by omega
    have hg : (L p).getD (k + m) 0 = (L p)[k + m] := by rw [List.getD_eq_getElem?_getD, List.getElem?_eq_getElem hkm]; rfl
    have hq := rowF_true.1 hF i hi
    have hx2 : (L p)[k + m] ∈ L (q i) := mem_L.2 ⟨(mem_L.1 (List.getElem_mem hkm)).1, hq⟩
    obtain ⟨j, hj, hje⟩ := List.getElem_of_mem hx2
    have := (h i hi).2 j (by omega) (k + m) (by omega) hkm
    rw [hg, List.getD_eq_getElem?_getD, List.getElem?_eq_getElem hj, Option.getD_some, hje] at this
    exact absurd this (Nat.lt_irrefl _)
  have := congrArg (List.filter (rowF q N)) (List.take_append_drop k (L p))
  rw [List.filter_append, e, List.append_nil] at this
  exact this
/-- What the lists' walk needs to know. -/
structure Com (X : List Nat) (Y : Nat → List Nat) (N : Nat) (F : Nat → Bool) (q : Nat → Nat → Bool) : Prop where
  lenX : X.length ≤ 65536
  lenY : ∀ i, (Y i).length ≤ 65536
  more : ∀ d k i, Lows Y N d X k → d i < (Y i).length → (Y i).getD (d i) 0 < X.getD k 0 → Lows Y N (fun j => if j = i then d i + 1 else d j) X k
  done : ∀ d k i, Lows Y N d X k → i < N → (Y i).length ≤ d i → (X.take k).filter F = X.filter F
  yes : ∀ d k i, Lows Y N d X k → k < X.length → i < N → d i < (Y i).length → (Y i).getD (d i) 0 = X.getD k 0 → q i (X.getD k 0) = true
  no : ∀ d k i, Lows Y N d X k → k < X.length → i < N → X.getD k 0 < (Y i).getD (d i) 0 → F (X.getD k 0) = false
  all : ∀ x, (∀ i, i < N → q i x = true) → F x = true
theorem com_of (p : Nat → Bool) (q : Nat → Nat → Bool) (N : Nat) : Com (L p) (fun i => L (q i)) N (rowF q N) q where
  lenX := L_len p
  lenY := fun i => L_len _
  more := fun _ _ i h hd hlt => h.more i hd hlt
  done := fun _ _ _ h hi hd => filter_done h hi hd
  yes := fun _ _ i h hk hi hd he => place_yes (L_getD hk) (h.place hk hi (fun _ => Nat.le_of_eq he.symm)) hd he
  no := fun _ _ i h hk hi hlt => rowF_false hi (place_no (L_getD hk) (h.place hk hi (fun _ => Nat.le_of_lt hlt)) (by omega))
  all := fun _ h => rowF_true.2 h
end Go.Proofs.Ytnmjhbnadfjapaa
/-
  WHAT SOME RISING LISTS HAVE IN COMMON, by contract.
-/
namespace Go.Proofs.Ytnmjhbnadfjapaa
open Go.ChangeShapes Go.WideShapes Go.ChangeAt Go.RowKit

set_option maxRecDepth 1000000 in
set_option maxHeartbeats 3200000 in
theorem common_c (g og cap : Nat) (a0 : Option Addr) (cap0 : Nat) (rows : List Value) (X : List Nat) (Y : Nat → List Nat) (F : Nat → Bool) (q : Nat → Nat → Bool) (w : World)
    (h : Sl w (.slice (some ⟨g, og, none⟩) (rows.length + 1) cap) (.slice a0 X.length cap0 :: rows)) (hc1 : ∀ u ∈ rows, u.oneCell' = true) (hl : rows.length ≤ 1000)
    (h0 : Sl w (.slice a0 X.length cap0) (ints X)) (hY : ∀ i v, rows[i]? = some v → Sl w v (ints (Y i)))
    (hC : Hid (Com X Y rows.length F q)) :
    Calls Try.prog 32 #[.slice (some ⟨g, og, none⟩) (rows.length + 1) cap] w fun e w' =>
      ∃ v', e = .returned v' ∧ Holds w' v' (ints (X.filter F)) ∧ Below w.heap.size w w' := by
  obtain ⟨i0, hi, hz0, hz1, hz2⟩ := info_parts infoI
  have hlp := hC.out.lenX
  have hS1 := h.from' 1 (by omega)
  have hx0 : w.cell? ⟨g, og, none⟩ = some (.slice a0 X.length cap0) := by
    obtain ⟨a, c, e1, -, -, -, hr⟩ := h
    cases e1
    rcases hr with hr | ⟨b, off, e2, _, hr⟩
    · cases hr
    · cases e2
      exact hr 0 _ rfl
  have hnc : (1 : Int) ≤ (rows.length + 1 : Nat) := by omega
  have hcc : (1 : Int) ≤ (cap : Int) := by
    obtain ⟨a, c, e1, hle, -⟩ := h
    cases e1
    simp only [List.length_cons] at hle
    omega
  have hclone := fun g og cap h => clone_c g og cap rows w h hc1 (by omega)
  have hSa : Hid (cap ≠ 1 → Sl w (.slice (some ⟨g, og + 1, none⟩) rows.length (cap - 1)) rows) := fun h => by
    simpa [h] using hS1
  have hSb : Hid (cap = 1 → Sl w (.slice (some ⟨g, og, none⟩) rows.length 0) rows) := fun h => by
    simpa [h] using hS1
  have hrests : Hid (∀ w1 c k, w1.ownsRow w.heap.size 47 1 (.slice (some ⟨c, 0, none⟩) rows.length k) rows.length rows → Rests w w1 c rows.length fun i => (Y i)) := fun w1 c k hown => rests_of hown hY
  have hg0 : Hid (g < w.heap.size) := World.block_lt_of_cell? _ _ hx0
  clear hS1 h hc1
  generalize rows.length = N at *
  clear hY
  go_enter Try.func32, Try.ntmps32
  go_wp2_with fail
  go_step3
  go_wp2_with fail
  all_goals
    refine (hclone _ _ _ (by first | exact hSa.out (by omega) | exact hSb.out (by omega))).mono ?_
    rintro e w1 ⟨c, k, rfl, hown, hB1⟩
    have hR := hidden (hrests.out w1 c k hown)
    have hx1 := (hB1.cell (p := ⟨g, og, none⟩) hg0.out).trans hx0
    replace hB1 := hidden hB1
    have hc0 : Hid (c < w1.heap.size) := by
      obtain ⟨cs, hc, -⟩ := hR.out.lies
      exact (Array.getElem?_eq_some_iff.1 hc).1
    clear hclone hSa hSb hrests hown hx0
    go_wp2_with fail
    go_step3
    go_wp2_with fail
    go_loopg [4, 18] X.length (fun gg s4 s18 wx => ∃ (k : Nat) (d : Nat → Nat), k + gg = X.length ∧ s18 = .int .i64 (k : Int) ∧ Hid (Lows Y N d X k) ∧ Hid (Rests w wx c N fun i => (Y i).drop (d i)) ∧
      Hid (wx.ownsRow w1.heap.size 3 1 s4 ((X.take k).filter F).length (ints ((X.take k).filter F))) ∧ Hid (Below w.heap.size w wx) ∧ Hid (w1.heap.size ≤ wx.heap.size))
    case atStart => exact ⟨0, fun _ => 0, by omega, rfl, fun i _ => ⟨Nat.zero_le _, fun j hj => absurd hj (Nat.not_lt_zero _)⟩, hR, ⟨rfl, .inl ⟨rfl, rfl⟩⟩, hB1, Nat.le_refl _⟩
    case round =>
      obtain ⟨k, d, hkg, rfl, hLow, hRs, hown, hB, hsz⟩ := hrel
      cases gk with
      | zero =>
        obtain rfl : k = X.length := by omega
        have hj1 : ¬ ((X.length : Nat) : Int) < (X.length : Int) := by omega
        have hfin := hown.out
        rw [List.take_length] at hfin
        replace hfin := hidden (holds_of_owns hfin)
        have hfb := hB
        clear hown hB hRs hLow hx1 hsz
        go_wp2
        try rw [Exit.noGoto_ret]
        go_ret
        exact ⟨_, rfl, hfin.out, hfb.out⟩
      | succ gg =>
        have hk : k < X.length := by omega
        have hj1 : (k : Int) < (X.length : Int) := by omega
        obtain ⟨b0, o0, rfl, hcx⟩ : ∃ b0 o0, a0 = some ⟨b0, o0, none⟩ ∧ wr.cell? ⟨b0, o0 + k, none⟩ = some (.int .i64 ((X.getD k 0 : Nat) : Int)) := by
          obtain ⟨a, cp, e1, -, -, -, hr⟩ := h0
          simp only [Value.slice.injEq] at e1
          obtain ⟨rfl, -, rfl⟩ := e1
          rcases hr with hr | ⟨b, off, rfl, hb, hr⟩
          · have := congrArg List.length hr
            rw [ints_len] at this; simp only [List.length_nil] at this; omega
          · exact ⟨b, off, rfl, (hB.out.cell (p := ⟨b, off + k, none⟩) hb).trans (hr k _ (ints_at X k hk))⟩
        obtain ⟨x, hx⟩ : ∃ x, Hid (X.getD k 0 = x) := ⟨_, (rfl : _ = _)⟩
        rw [hx.out] at hcx
        go_wp2
        go_loopg [24] N (fun g2 s24 wy => ∃ (i : Nat) (d : Nat → Nat), i + g2 = N ∧ s24 = .int .i64 (i : Int) ∧ Hid (Lows Y N d X k) ∧ Hid (∀ i', i' < i → q i' x = true) ∧ Hid (Rests w wy c N fun i => (Y i).drop (d i)) ∧
          Hid (wy.ownsRow w1.heap.size 3 1 u4 ((X.take k).filter F).length (ints ((X.take k).filter F))) ∧ Hid (Below w.heap.size w wy) ∧ Hid (w1.heap.size ≤ wy.heap.size))
        case atStart => exact ⟨0, d, by omega, rfl, hLow, fun i' h => absurd h (Nat.not_lt_zero _), hRs, hown, hB, hsz⟩
        case round =>
          -- LOOP2
          obtain ⟨i, d, hig, rfl, hLow, hyes, hRs, hown, hB, hsz⟩ := hrel
          cases gk with
          | zero =>
            obtain rfl : i = N := by omega
            have hj2 : ¬ (i : Int) < (i : Int) := by omega
            have hF : F x = true := hC.out.all x hyes.out
            have hfl := filter_snoc X F k hk
            rw [hx.out, hF] at hfl
            simp only [if_true] at hfl
            have hfn : ((X.take k).filter F).length ≤ 65536 := by
              have h3 := List.length_filter_le F (X.take k)
              have h4 : (X.take k).length ≤ k := by rw [List.length_take]; omega
              omega
            replace hfl := hidden hfl
            have hfn2 := hidden hfn
            generalize (X.take k).filter F = fs at *
            have hown3 := hown.out
            have hsz3 := hidden hsz.out
            clear hF
            go_wp2_with (at_builtin; refine wpList_append_own _ rfl _ _ 47 rfl w1.heap.size 3 i0 (.int .i64 0) 1 8 Try.underlying47 hi hz0 hz1 hz2 rfl (by decide) _ _ _ rfl (hown3.alloc _) ⟨wr.heap.size, 0, none⟩ 1 1 [.int .i64 (x : Int)] rfl rfl (cell_one_new _ _ _) (fun u hu => by simp at hu; subst hu; rfl) (by unfold maxLen; omega) (by omega) (by have := hsz3.out; simp; omega) ?_; intro v' w3 hown' hgrow hnil3)
            have hne : u4.ownBlock ≠ some c := fun e => by
              have h1 := (hown3.lt c e).1
              have h2 := hc0.out
              omega
            have hnext : Hid (w3.ownsRow w1.heap.size 3 1 v' ((X.take (k + 1)).filter F).length (ints ((X.take (k + 1)).filter F))) := by
              rw [hfl.out, List.length_append, ints_snoc]; exact hown'
            have hR3 : Hid (Rests w w3 c i fun i => (Y i).drop (d i)) := ((hRs.out.grown (World.grownBy_alloc wr _ none) (by simp)).grown hgrow hne)
            have hB3 : Hid (Below w.heap.size w w3) := (hB.out.alloc hB.out.size _).grown hgrow (by have := hB.out.size; simp; omega) (fun m hm => by have := (hown3.lt m hm).1; have := hB1.out.size; omega)
            have hsz4 : Hid (w1.heap.size ≤ w3.heap.size) := by
              have h1 := hgrow.size
              have h2 := hsz3.out
              show _ ≤ _
              simp at h1
              omega
            have hLow2 := hidden hLow.out.next
            clear hown3 hown' hgrow hnil3 hne hRs hown hB hsz hsz3 hLow hfl
            go_wp2
            go_roundg gg
            case measure => omega
            case rel => exact ⟨k + 1, d, by omega, by first | rfl | go_num | simp, hLow2, hR3, hnext, hB3, hsz4⟩
          | succ g2 =>
            have hi2 : i < N := by omega
            have hj2 : (i : Int) < (N : Int) := by omega
            go_wp2
            go_loopg [] ((Y i).length - d i) (fun g3 wz => ∃ (d : Nat → Nat), d i + g3 = (Y i).length ∧ Hid (Lows Y N d X k) ∧ Hid (Rests w wz c N fun i => (Y i).drop (d i)) ∧
              Hid (wz.ownsRow w1.heap.size 3 1 u4 ((X.take k).filter F).length (ints ((X.take k).filter F))) ∧ Hid (Below w.heap.size w wz) ∧ Hid (w1.heap.size ≤ wz.heap.size))
            case atStart => exact ⟨d, by have := (hLow.out i hi2).1; omega, hLow, hRs, hown, hB, hsz⟩
            case round =>
              clear hRs hown hB hsz hLow
              obtain ⟨d, hdg, hLow, hRs, hown, hB, hsz⟩ := hrel
              obtain ⟨a, cp, hcl, hfr, hSl⟩ := hRs.out.get i hi2
              cases gk with
              | zero =>
                have hn : ((Y i).drop (d i)).length = 0 := by rw [List.length_drop]; omega
                rw [hn] at hcl
                have hfin := hown.out
                rw [hC.out.done d k i hLow.out hi2 (by omega)] at hfin
                replace hfin := hidden (holds_of_owns hfin)
                have hfb := hB
                clear hown hB hRs hLow hx1 hsz hSl hyes
                go_wp2
                try rw [Exit.noGoto_ret]
                go_ret
                exact ⟨_, rfl, hfin.out, hfb.out⟩
              | succ g3 =>
                have hd : d i < (Y i).length := by omega
                obtain ⟨m, hm⟩ : ∃ m, ((Y i).drop (d i)).length = m + 1 := ⟨(Y i).length - d i - 1, by rw [List.length_drop]; omega⟩
                rw [hm] at hcl hSl
                have hmb : m ≤ 65536 := by have := hC.out.lenY i; rw [List.length_drop] at hm; omega
                obtain ⟨b, o, rfl, hb, hcy⟩ : ∃ b o, a = some ⟨b, o, none⟩ ∧ b < w.heap.size ∧ w.cell? ⟨b, o, none⟩ = some (.int .i64 (((Y i).getD (d i) 0 : Nat) : Int)) := by
                  obtain ⟨a2, cp2, e1, -, -, -, hr⟩ := hSl
                  simp only [Value.slice.injEq] at e1
                  obtain ⟨rfl, -, rfl⟩ := e1
                  rcases hr with hr | ⟨b, off, rfl, hb, hr⟩
                  · have := congrArg List.length hr
                    rw [ints_len, hm] at this; simp only [List.length_nil] at this; omega
                  · refine ⟨b, off, rfl, hb, hr 0 _ ?_⟩
                    rw [ints_at _ 0 (by omega), List.getD_eq_getElem?_getD, List.getElem?_drop, List.getD_eq_getElem?_getD, Nat.add_zero]
                have hcyw := (hB.out.cell (p := ⟨b, o, none⟩) hb).trans hcy
                have hcp : (1 : Int) ≤ (cp : Int) := by
                  obtain ⟨a2, cp2, e1, hle, -⟩ := hSl
                  simp only [Value.slice.injEq] at e1
                  obtain ⟨-, -, rfl⟩ := e1
                  rw [ints_len, hm] at hle
                  omega
                have hfrom := hSl.from' 1 (by omega)
                rw [show (ints ((Y i).drop (d i))).drop 1 = ints ((Y i).drop (d i + 1)) by simp [ints, List.map_drop]] at hfrom
                have hsa : Hid (cp ≠ 1 → Sl w (.slice (some ⟨b, o + 1, none⟩) m (cp - 1)) (ints ((Y i).drop (d i + 1)))) := fun h => by simpa [h] using hfrom
                have hsb : Hid (cp = 1 → Sl w (.slice (some ⟨b, o, none⟩) m 0) (ints ((Y i).drop (d i + 1)))) := fun h => by simpa [h] using hfrom
                have hm1 : (0 : Int) < ((m + 1 : Nat) : Int) := by omega
                have hm2 : (1 : Int) ≤ ((m + 1 : Nat) : Int) := by omega
                clear hfrom hSl hcy hm
                obtain ⟨y, hy⟩ : ∃ y, Hid ((Y i).getD (d i) 0 = y) := ⟨_, (rfl : _ = _)⟩
                rw [hy.out] at hcyw
                have hne : Hid (u4.ownBlock ≠ some c) := fun e => by
                  have h1 := (hown.out.lt c e).1
                  have h2 := hc0.out
                  omega
                by_cases hlt : y < x
                · have hlt1 : (y : Int) < (x : Int) := by omega
                  have hLow2 := hidden (hLow.out)
                  have hLow3 : Hid (Lows Y N (fun j => if j = i then d i + 1 else d j) X k) := hC.out.more d k i hLow.out hd (by rw [hy.out, hx.out]; exact hlt)
                  have hRc : Hid (∀ v, Sl w v (ints ((Y i).drop (d i + 1))) → Rests w (wr.setCell ⟨c, i, none⟩ v) c N fun j => (Y j).drop (if j = i then d i + 1 else d j)) := fun v hv =>
                    (hRs.out.set i v _ hv).congr fun j _ => by
                      by_cases e : j = i
                      · subst e; simp
                      · simp [e]
                  have hown3 : Hid (∀ v, (wr.setCell ⟨c, i, none⟩ v).ownsRow w1.heap.size 3 1 u4 ((X.take k).filter F).length (ints ((X.take k).filter F))) := fun v => hown.out.kept (grownBy_set wr c i v) (.inr hne.out)
                  have hB3 : Hid (∀ v, Below w.heap.size w (wr.setCell ⟨c, i, none⟩ v)) := fun v => hB.out.setCell hRs.out.low v
                  have hsz3 : Hid (∀ v, w1.heap.size ≤ (wr.setCell ⟨c, i, none⟩ v).heap.size) := fun v => by
                    have := (grownBy_set wr c i v).size
                    exact Nat.le_trans hsz.out this
                  clear hRs hown hB hsz hLow hLow2
                  go_wp2
                  all_goals
                    go_roundg g3
                    case measure => omega
                    case rel => exact ⟨fun j => if j = i then d i + 1 else d j, by simp; omega, hLow3, hRc.out _ (by first | exact hsa.out (by omega) | exact hsb.out (by omega)), hown3.out _, hB3.out _, hsz3.out _⟩
                · have hlt1 : ¬ (y : Int) < (x : Int) := by omega
                  by_cases he : y = x
                  · subst he
                    have hyes2 : Hid (∀ i', i' < i + 1 → q i' y = true) := fun i' hi' => by
                      by_cases e : i' = i
                      · subst e
                        have := hC.out.yes d k i' hLow.out hk hi2 hd (by rw [hy.out, hx.out])
                        rwa [hx.out] at this
                      · exact hyes.out i' (by omega)
                    go_wp2
                    go_roundg g2
                    case measure => omega
                    case rel => exact ⟨i + 1, d, by omega, by first | rfl | go_num | simp, hLow, hyes2, hRs, hown, hB, hsz⟩
                  · have hne1 : ¬ (y : Int) = (x : Int) := by omega
                    have hbne : ((y : Int) != (x : Int)) = true := by simp; omega
                    have hnext : Hid (wr.ownsRow w1.heap.size 3 1 u4 ((X.take (k + 1)).filter F).length (ints ((X.take (k + 1)).filter F))) := by
                      have hF : F x = false := by
                        have := hC.out.no d k i hLow.out hk hi2 (by rw [hy.out, hx.out]; omega)
                        rwa [hx.out] at this
                      have hfl := filter_snoc X F k hk
                      rw [hx.out, hF] at hfl
                      simp only [Bool.false_eq_true, if_false, List.append_nil] at hfl
                      show wr.ownsRow _ _ _ _ _ _
                      rw [hfl]; exact hown.out
                    have hLow2 := hidden hLow.out.next
                    clear hown hLow
                    go_wp2
                    go_roundg gg
                    case measure => omega
                    case rel => exact ⟨k + 1, d, by omega, by first | rfl | go_num | simp, hLow2, hRs, hnext, hB, hsz⟩
end Go.Proofs.Ytnmjhbnadfjapaa
