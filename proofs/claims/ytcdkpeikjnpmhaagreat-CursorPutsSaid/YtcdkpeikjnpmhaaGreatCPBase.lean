/-
  WHAT IS READ BACK OF A GOOD MARK'S BYTES; boxes written over, marks copied.
-/
import Derived.Test.YtcdkpeikjnpmhaaGreatCPut
import Derived.Test.YtcdkpeikjnpmhaaGreatCSame
import Derived.Test.YtcdkpeikjnpmhaaGreatMkGetM
import Derived.Test.YtcdkpeikjnpmhaaGreatDesc
namespace Go.Proofs.YtcdkpeikjnpmhaaGreat
open Go.ChangeShapes Go.WideShapes Go.ChangeAt Go.RowKit

theorem put_pos (n : Nat) : 1 ≤ (put n).length := by
  unfold put putF; split <;> simp
theorem fa_put (L : List UInt8) : ∀ (vs us : List Nat) (f : Nat), L = bts us ++ bts vs → (bts vs).length < f → (∀ u ∈ vs, u < 18446744073709551616) → fa L f us (bts us).length = (us ++ vs, 0)
  | [], us, f, hL, hf, _ => by
    have hl : ¬ (bts us).length < L.length := by rw [hL]; simp [bts]
    cases f with
    | zero => simp at hf
    | succ f => simp [fa, hl]
  | v :: vs, us, f, hL, hf, hv => by
    have hb : bts (v :: vs) = put v ++ bts vs := by simp [bts]
    have hp := put_pos v
    have hl : (bts us).length < L.length := by rw [hL, hb]; simp; omega
    have hd : L.drop (bts us).length = put v ++ bts vs := by rw [hL, hb]; simp
    have hg := get_put v (hv v (by simp)) (bts vs)
    cases f with
    | zero => simp at hf
    | succ f =>
      have hs : (bts us).length + (put v).length = (bts (us ++ [v])).length := by rw [bts_snoc]; simp
      have h := fa_put L vs (us ++ [v]) f (by rw [hL, hb, bts_snoc]; simp) (by rw [hb] at hf; simp at hf; omega) (fun u hu => hv u (by simp [hu]))
      simp [fa, hl, hd, hg, hs, h]
theorem allS_put (us : List Nat) (hus : ∀ u ∈ us, u < 18446744073709551616) : allS (bts us) = (us, 0) := by
  have h := fa_put (bts us) us [] ((bts us).length + 1) (by simp [bts]) (by omega) hus
  simpa [allS, bts] using h
theorem mkG_nums {m : Mk} (hG : goodM m = true) (hr0 : 0 ≤ m.rest) : mkG (numsM m) = m ∧ okG (numsM m) = true := by
  obtain ⟨hi, ht0, ht1, hn⟩ := good_head hG
  have hrow := good_row hG
  obtain ⟨t, o, zs, r, is⟩ := m
  dsimp only at hi ht0 ht1 hn hrow hr0
  obtain rfl : is = [] := List.eq_nil_of_length_eq_zero hi
  have hE : numsM ⟨t, o, zs, r, []⟩ = 1 :: t.toNat :: (if o then 1 else 0) :: zs.length :: (zs.map Int.toNat ++ [r.toNat]) := by simp [numsM]
  have hlen : (numsM ⟨t, o, zs, r, []⟩).length = zs.length + 5 := by rw [hE]; simp
  have hz : (zs.map Int.toNat).map nodeG = zs := by
    rw [List.map_map]
    refine (List.map_congr_left fun z hz => ?_).trans (List.map_id zs)
    have h := badZ_no (z := z) (by simpa using List.any_eq_false.1 hrow z hz)
    simp only [nodeG, Function.comp, id]; omega
  have h4 : (numsM ⟨t, o, zs, r, []⟩).getD ((numsM ⟨t, o, zs, r, []⟩).length - 1) 0 = r.toNat := by
    rw [hlen, hE]
    simp [List.getD]
  have h5 : rowG (numsM ⟨t, o, zs, r, []⟩) ((numsM ⟨t, o, zs, r, []⟩).length - 5) = zs := by
    unfold rowG
    rw [hlen, hE]
    have e : zs.length + 5 - 5 = (zs.map Int.toNat).length := by simp
    rw [e]
    show (List.take (zs.map Int.toNat).length (zs.map Int.toNat ++ [r.toNat])).map nodeG = zs
    rw [List.take_left, hz]
  constructor
  · unfold mkG
    rw [h4, h5, hE]
    have e1 : ((t.toNat : Nat) : Int) = t := Int.toNat_of_nonneg ht0
    have e2 : ((r.toNat : Nat) : Int) = r := Int.toNat_of_nonneg hr0
    have e3 : ((if o then 1 else 0 : Nat) == 1) = o := by cases o <;> rfl
    simp only [List.getD_cons_succ, List.getD_cons_zero, e1, e2, e3]
  · unfold okG
    rw [hlen, hE]
    have e3 : (if o then 1 else 0 : Nat) ≤ 1 := by cases o <;> simp
    simp only [List.getD_cons_succ, List.getD_cons_zero, decide_eq_true_eq]
    refine ⟨by omega, trivial, by omega, e3, trivial⟩
theorem getG_nums {m : Mk} (hG : goodM m = true) (hr0 : 0 ≤ m.rest) (hr1 : m.rest < 18446744073709551616) : getG (allS (bts (numsM m))).1 (allS (bts (numsM m))).2 = some m := by
  obtain ⟨h1, h2⟩ := mkG_nums hG hr0
  rw [allS_put _ (numsM_lt hG hr0 hr1)]
  unfold getG
  rw [h1]
  exact if_pos ⟨rfl, h2, hG⟩
theorem nums_size {m : Mk} (hG : goodM m = true) : (bts (numsM m)).length ≤ 1000 := by
  obtain ⟨-, -, -, hn⟩ := good_head hG
  have := bts_len (numsM m)
  have h2 : (numsM m).length = m.nodes.length + 5 := by simp [numsM]
  omega
theorem calm_heap {x y : World} {b : Nat} {o : Obj} (h : GoX.Calm x y) (hb : x.heap[b]? = some o) : y.heap[b]? = some o := (h.block _ (Array.getElem?_eq_some_iff.1 hb).1).trans hb
def put5 (x : World) (b : Nat) (c0 c1 c2 c3 c4 : Value) : World := ((((x.setCell ⟨b, 0, none⟩ c0).setCell ⟨b, 1, none⟩ c1).setCell ⟨b, 2, none⟩ c2).setCell ⟨b, 3, none⟩ c3).setCell ⟨b, 4, none⟩ c4
theorem put5_oth {x : World} {b c : Nat} {o : Obj} (h : x.heap[c]? = some o) (hne : b ≠ c) (c0 c1 c2 c3 c4 : Value) : (put5 x b c0 c1 c2 c3 c4).heap[c]? = some o := set_oth (set_oth (set_oth (set_oth (set_oth h hne _ _) hne _ _) hne _ _) hne _ _) hne _ _
theorem put5_calm {w x : World} (h : GoX.Calm w x) {b : Nat} (hb : w.heap.size ≤ b) (c0 c1 c2 c3 c4 : Value) : GoX.Calm w (put5 x b c0 c1 c2 c3 c4) := calm_set (calm_set (calm_set (calm_set (calm_set h hb _) hb _) hb _) hb _) hb _
theorem put5_at {x : World} {b : Nat} {a0 a1 a2 a3 a4 : Value} {t : TypeId} (h : x.heap[b]? = some (.cells #[a0, a1, a2, a3, a4] t)) (c0 c1 c2 c3 c4 : Value) : (put5 x b c0 c1 c2 c3 c4).heap[b]? = some (.cells #[c0, c1, c2, c3, c4] t) := set5 h c0 c1 c2 c3 c4
theorem fewM_few (m : Mk) : m.few.few = m.few := by
  simp only [Mk.few, List.take_take, Nat.min_self]
  congr 1
  rw [← List.map_take, List.take_take, Nat.min_self, List.map_map]
  exact List.map_congr_left fun y _ => by simp [It.few, List.take_take]
theorem few_nodes (m : Mk) : m.few.nodes.length ≤ 14 := by simp [Mk.few]; omega
theorem few_items (m : Mk) : m.few.items.length ≤ 4 := by simp [Mk.few]; omega
theorem few_its (m : Mk) : ∀ y ∈ m.few.items, y.l.length ≤ 5 := fun y hy => by
  obtain ⟨z, _, rfl⟩ := List.mem_map.1 hy
  simp [It.few]; omega
/-- A mark copied: its rows lie somewhere. -/
theorem markS_c (m : Mk) (na : Option Addr) (nc : Nat) (ia : Option Addr) (ic : Nat) (w : World) (hn : Holds w (.slice na m.nodes.length nc) (m.nodes.map (Value.int .i64))) (hi : HoldsIL w (.slice ia m.items.length ic) m.items)
    (hzn : m.nodes.length ≤ 9223372036854775807) (hzi : m.items.length ≤ 9223372036854775807) (hzz : ∀ y ∈ m.items, y.l.length ≤ 9223372036854775807) :
    Calls Tryz.prog 4 #[mkS m na nc ia ic] w fun e w' => ∃ na' nc' ia' ic', e = .returned (mkS m.few na' nc' ia' ic') ∧
      (w'.ownsRow 0 3 1 (.slice na' m.few.nodes.length nc') m.few.nodes.length (m.few.nodes.map (Value.int .i64)) ∧
      ∃ xs, w'.ownsRow 0 39 4 (.slice ia' m.few.items.length ic') m.few.items.length xs ∧ ItsIn 3 w' xs m.few.items) ∧ Below w.heap.size w w' :=
  (mark_c m _ _ w hn hi (by omega) (by omega) (fun y hy => by have := hzz y hy; omega)).mono fun e w' ⟨nv, iv, he, h1, ⟨xs, h2, h3⟩, hB⟩ => by
    obtain ⟨a, c, rfl⟩ := own_shape h1
    obtain ⟨b, d, rfl⟩ := own_shape h2
    exact ⟨a, c, b, d, he, ⟨h1, xs, h2, h3⟩, hB⟩
theorem hold_of {x : World} {m : Mk} {na ia : Option Addr} {nc ic : Nat} (h : x.ownsRow 0 3 1 (.slice na m.nodes.length nc) m.nodes.length (m.nodes.map (Value.int .i64)) ∧
      ∃ xs, x.ownsRow 0 39 4 (.slice ia m.items.length ic) m.items.length xs ∧ ItsIn 3 x xs m.items) :
    Holds x (.slice na m.nodes.length nc) (m.nodes.map (Value.int .i64)) ∧ HoldsIL x (.slice ia m.items.length ic) m.items := by
  obtain ⟨h1, xs, h2, h3⟩ := h
  exact ⟨holds_of_owns h1, holdsIL_of h2 h3 rfl⟩
theorem hold_put {x : World} {m : Mk} {na ia : Option Addr} {nc ic b : Nat} {c0 c1 c2 c3 c4 d0 d1 d2 d3 d4 : Value} (h : x.ownsRow 0 3 1 (.slice na m.nodes.length nc) m.nodes.length (m.nodes.map (Value.int .i64)) ∧
      ∃ xs, x.ownsRow 0 39 4 (.slice ia m.items.length ic) m.items.length xs ∧ ItsIn 3 x xs m.items) (hb : x.heap[b]? = some (.cells #[c0, c1, c2, c3, c4] 26)) :
    Holds (put5 x b d0 d1 d2 d3 d4) (.slice na m.nodes.length nc) (m.nodes.map (Value.int .i64)) ∧ HoldsIL (put5 x b d0 d1 d2 d3 d4) (.slice ia m.items.length ic) m.items := by
  have ht : 3 ≠ 26 := by decide
  have ht2 : 39 ≠ 26 := by decide
  obtain ⟨h1, xs, h2, h3⟩ := h
  have b1 := set_heap hb 0 d0
  have b2 := set_heap b1 1 d1
  have b3 := set_heap b2 2 d2
  have b4 := set_heap b3 3 d3
  exact hold_of ⟨own_set (own_set (own_set (own_set (own_set h1 hb ht _ _) b1 ht _ _) b2 ht _ _) b3 ht _ _) b4 ht _ _, xs,
    own_set (own_set (own_set (own_set (own_set h2 hb ht2 _ _) b1 ht2 _ _) b2 ht2 _ _) b3 ht2 _ _) b4 ht2 _ _,
    ((((h3.setBox hb ht _ _).setBox b1 ht _ _).setBox b2 ht _ _).setBox b3 ht _ _).setBox b4 ht _ _⟩
theorem sameM_self (m : Mk) : sameM m m = true := by simp [sameM]
/-- What the rest of the law stands on: a mark that is as cut as it may be. -/
structure Cut (m : Mk) : Prop where
  few : m.few = m
  nodes : m.nodes.length ≤ 14
  items : m.items.length ≤ 4
  its : ∀ y ∈ m.items, y.l.length ≤ 5
  rest : 0 ≤ m.rest

/-- The rows of a mark's copy lie somewhere. -/
def RowsM (x : World) (m : Mk) (na : Option Addr) (nc : Nat) (ia : Option Addr) (ic : Nat) : Prop :=
  x.ownsRow 0 3 1 (.slice na m.nodes.length nc) m.nodes.length (m.nodes.map (Value.int .i64)) ∧
    ∃ xs, x.ownsRow 0 39 4 (.slice ia m.items.length ic) m.items.length xs ∧ ItsIn 3 x xs m.items
theorem RowsM.keep {x y : World} {m : Mk} {na ia : Option Addr} {nc ic : Nat} (h : RowsM x m na nc ia ic) (hB : Below x.heap.size x y) : RowsM y m na nc ia ic := by
  obtain ⟨h1, xs, h2, h3⟩ := h
  exact ⟨own_keep h1 hB, xs, own_keep h2 hB, h3.kept hB⟩
theorem RowsM.put {x : World} {m : Mk} {na ia : Option Addr} {nc ic b : Nat} {c0 c1 c2 c3 c4 d0 d1 d2 d3 d4 : Value} (h : RowsM x m na nc ia ic) (hb : x.heap[b]? = some (.cells #[c0, c1, c2, c3, c4] 26)) :
    RowsM (put5 x b d0 d1 d2 d3 d4) m na nc ia ic := by
  have ht : 3 ≠ 26 := by decide
  have ht2 : 39 ≠ 26 := by decide
  obtain ⟨h1, xs, h2, h3⟩ := h
  have b1 := set_heap hb 0 d0
  have b2 := set_heap b1 1 d1
  have b3 := set_heap b2 2 d2
  have b4 := set_heap b3 3 d3
  exact ⟨own_set (own_set (own_set (own_set (own_set h1 hb ht _ _) b1 ht _ _) b2 ht _ _) b3 ht _ _) b4 ht _ _, xs,
    own_set (own_set (own_set (own_set (own_set h2 hb ht2 _ _) b1 ht2 _ _) b2 ht2 _ _) b3 ht2 _ _) b4 ht2 _ _,
    ((((h3.setBox hb ht _ _).setBox b1 ht _ _).setBox b2 ht _ _).setBox b3 ht _ _).setBox b4 ht _ _⟩
theorem RowsM.holds {x : World} {m : Mk} {na ia : Option Addr} {nc ic : Nat} (h : RowsM x m na nc ia ic) : Holds x (.slice na m.nodes.length nc) (m.nodes.map (Value.int .i64)) ∧ HoldsIL x (.slice ia m.items.length ic) m.items := hold_of h
/-- Both boxes written over. -/
def both5 (x : World) (b c : Nat) (m o : Mk) (na : Option Addr) (nc : Nat) (ia : Option Addr) (ic : Nat) (nb : Option Addr) (nd : Nat) (ib : Option Addr) (id : Nat) : World :=
  put5 (put5 x b (.int .i64 m.told) (.bool m.over) (.slice na m.nodes.length nc) (.int .u64 m.rest) (.slice ia m.items.length ic)) c (.int .i64 o.told) (.bool o.over) (.slice nb o.nodes.length nd) (.int .u64 o.rest) (.slice ib o.items.length id)
theorem both5_all {w x : World} {b : Nat} {m o : Mk} {na ia nb ib : Option Addr} {nc ic nd id : Nat} {c0 c1 c2 c3 c4 d0 d1 d2 d3 d4 : Value} (hC : GoX.Calm w x) (hw : w.heap.size ≤ b)
    (hb : x.heap[b]? = some (.cells #[c0, c1, c2, c3, c4] 26)) (hc : x.heap[b + 1]? = some (.cells #[d0, d1, d2, d3, d4] 26)) (hm : RowsM x m na nc ia ic) (ho : RowsM x o nb nd ib id) :
    GoX.Calm w (both5 x b (b + 1) m o na nc ia ic nb nd ib id) ∧
    (both5 x b (b + 1) m o na nc ia ic nb nd ib id).heap[b]? = some (.cells #[.int .i64 m.told, .bool m.over, .slice na m.nodes.length nc, .int .u64 m.rest, .slice ia m.items.length ic] 26) ∧
    (both5 x b (b + 1) m o na nc ia ic nb nd ib id).heap[b + 1]? = some (.cells #[.int .i64 o.told, .bool o.over, .slice nb o.nodes.length nd, .int .u64 o.rest, .slice ib o.items.length id] 26) ∧
    RowsM (both5 x b (b + 1) m o na nc ia ic nb nd ib id) m na nc ia ic ∧ RowsM (both5 x b (b + 1) m o na nc ia ic nb nd ib id) o nb nd ib id := by
  have h1 := put5_at hb (.int .i64 m.told) (.bool m.over) (.slice na m.nodes.length nc) (.int .u64 m.rest) (.slice ia m.items.length ic)
  have h2 := put5_oth hc (show b ≠ b + 1 by omega) (.int .i64 m.told) (.bool m.over) (.slice na m.nodes.length nc) (.int .u64 m.rest) (.slice ia m.items.length ic)
  refine ⟨put5_calm (put5_calm hC hw _ _ _ _ _) (by omega) _ _ _ _ _, put5_oth h1 (by omega) _ _ _ _ _, put5_at h2 _ _ _ _ _, (hm.put hb).put h2, (ho.put hb).put h2⟩
end Go.Proofs.YtcdkpeikjnpmhaaGreat
