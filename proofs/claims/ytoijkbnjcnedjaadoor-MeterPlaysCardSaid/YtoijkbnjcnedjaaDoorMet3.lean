/-
  METERS: Names, by contract (the keys of a map, collected and sorted).
-/
import Derived.Test.YtoijkbnjcnedjaaDoorMet1
import Derived.Test.YtoijkbnjcnedjaaDoorShelf
import Derived.Maps.Own
import Derived.Maps.OwnOps
import Derived.Maps.RangeWalk
import Derived.Maps.OwnSet
import Derived.Sort.OwnSorted
import Derived.Sort.KeysCollected
import Derived.Sort.Walk0
import Derived.Test.YtoijkbnjcnedjaaDoorRec
import Derived.Lib.AppendIntMem
import Derived.Lib.ItoaNum
namespace Go.Proofs.YtoijkbnjcnedjaaDoor
open Go.ChangeShapes Go.WideShapes Go.ChangeAt Go.RowKit Go.Maps

theorem infoTy : (Tryd.prog.info? 9).map (fun i => (i.zero, i.size, i.bytes)) = some (some (.string ⟨#[]⟩), 1, 16) := by kernel_rfl
/-- Texts as lists of bytes. -/
def txB (L : List ByteArray) : List (List UInt8) := L.map fun s => s.data.toList
theorem sorted_strict {ss : List (List UInt8)} (hn : ss.Nodup) : StrictT ((ss.mergeSort leB).map fun l => (⟨l.toArray⟩ : ByteArray)) := by
  have tr : ∀ a b c : List UInt8, leB a b = true → leB b c = true → leB a c = true := fun a b c h1 h2 => by simp only [leB, decide_eq_true_eq] at *; exact List.le_trans h1 h2
  have to : ∀ a b : List UInt8, (leB a b || leB b a) = true := fun a b => by simp only [leB, Bool.or_eq_true, decide_eq_true_eq]; exact List.le_total a b
  have h1 := List.pairwise_mergeSort tr to ss
  have h2 : (ss.mergeSort leB).Nodup := (List.mergeSort_perm ss leB).nodup_iff.2 hn
  unfold StrictT
  rw [List.pairwise_map]
  refine (h1.and h2).imp fun {a b} ⟨h, hne⟩ => ?_
  unfold blT
  rw [ByteArray.toList_eq, ByteArray.toList_eq]
  simp only [leB, decide_eq_true_eq] at h ⊢
  show Op.bytesLess a b = true
  cases h3 : Op.bytesLess a b with
  | true => rfl
  | false =>
    have h4 : Op.bytesLess b a = false := by rw [bytesLess_eq]; simpa using h
    exact absurd (lt_b_tri a b h3 h4) hne
set_option maxRecDepth 100000 in
set_option maxHeartbeats 3200000 in
theorem mnames_c {b0 b n : Nat} {D0 : DataW Unit} {m : Int} {L0 : List Ct} (w : World) (hM : MtAt w b0 b n D0 m L0) (hmax : L0.length ≤ 1000000) (hst0 : StrictT (namesC L0)) :
    Calls Tryd.prog 21 #[.pointer (some ⟨b0, 0, none⟩)] w fun e w' => ∃ (g cap : Nat), e = .returned (.slice (some ⟨g, 0, none⟩) L0.length cap) ∧
      w'.ownsRow w.heap.size 9 1 (.slice (some ⟨g, 0, none⟩) L0.length cap) L0.length (tx (namesC L0)) ∧ Below w.heap.size w w' := by
  have hown := hM.own
  have hhas := hidden hM.has
  have hsz : Maps.size D0 ≤ 1000000 := Nat.le_trans hM.len hmax
  obtain ⟨⟨q0, q1, q2⟩, -⟩ := cell_map hM.box
  replace hst0 := hidden hst0
  have hMb := hidden (fun (x : World) (hx : Below w.heap.size w x) => (cell_map ((hx.block b0 (Array.getElem?_eq_some_iff.1 hM.box).1).trans hM.box)).1.2.2)
  clear hM
  obtain ⟨i0, hi, hz0, hz1, hz2⟩ := info_parts infoTy
  have hbl := hown.lt
  have hmx : Maps.size D0 ≤ maxLen := by unfold maxLen; omega
  go_enter Tryd.func21, Tryd.ntmps21
  go_wp2_with (first
    | (at_len; refine wpList_len_own _ rfl _ 47 rfl 9 3 Tryd.underlying47 _ b n _ rfl hown ?_)
    | (at_make; refine wpList_make_own _ rfl _ _ 39 rfl w.heap.size 9 i0 (.string ⟨#[]⟩) 1 Tryd.underlying39 hi hz0 hz1 _ _ _ (Maps.size D0) rfl rfl rfl (by rw [hz2]; omega) hmx (Nat.le_refl _) ?_; intro w1 hrow1 hg1; have q5 := hMb.out w1 ((Below.refl _ _).grown hg1 (Nat.le_refl _) (fun j hj => by cases hj)))
    | (at_range; refine wpList_range_own _ rfl _ 47 rfl 9 3 lawK Tryd.underlying47 _ b n _ rfl (hown.kept hg1 (by simp)) ?_; intro w0 hrg0 hg0 hs0)
    | go_in)
  go_frame
  go_loopw [3] (fun v wr => ∃ (left : Lit → Bool) (cnt : Nat) (ss : List (List UInt8)), wr.ranges Tryd.prog 9 (plainElem Tryd.prog 3) b w1.heap.size n D0 left cnt ∧ ss.length + cnt ≤ Maps.size D0 ∧
      wr.ownsRow w.heap.size 9 1 v ss.length (ss.map encStr) ∧ v ≠ .slice none 0 0 ∧ Collected D0 left ss ∧ Below w.heap.size w wr)
    (fun _ wr => wr.rangeLeft b w1.heap.size)
  case atStart =>
    exact ⟨_, _, [], hrg0, by simp, hrow1.kept hg0 (Or.inr (by simp [Value.ownBlock])), by simp, Collected.start D0,
      ((Below.refl _ _).grown hg1 (Nat.le_refl _) (fun j hj => by cases hj)).grown hg0 hg1.size (fun j hj => by cases hj)⟩
  case round =>
    obtain ⟨left, cnt, ss, hrg, hcs, hrow, hnn, hC, hnx⟩ := hrel
    go_wp2_with (first
      | (at_next; refine wpList_next_ranges _ rfl _ rfl 9 lawK (plainElem Tryd.prog 3) encStr (Value.int .i64) (fun key kl hk => by obtain ⟨x, hx, _⟩ := Maps.keyOf_str Tryd.underlying9 hk; exact ⟨x, hx⟩) (fun v y hv => by obtain ⟨c, rfl, _⟩ := plainElem_int_inv Tryd.underlying3 hv; exact ⟨c, rfl⟩) b w1.heap.size n _ _ _ rfl hrg ?_ ?_)
      | go_in)
    · intro hc0 hl0
      rcases hrow.2 with ⟨hnil, _⟩ | ⟨g, cap, cur, rfl, hbase, hb, h1, h2, h3, h4⟩
      · exact absurd hnil hnn
      have hH : Go.Sort.Holds encStr wr g 0 ss.toArray := holds_of_block hb (by simpa using h4)
      have hgl : g < wr.heap.size := (Array.getElem?_eq_some_iff.1 hb).1
      have hc := Tryd.slices_Sort_string g 0 cap ss wr hH hgl (by omega)
      have hfin := hidden (fun os nn => ownsRow_sorted (w := wr) (os := os) (n := nn) (ss := ss) (ts := ss.mergeSort fun x y => decide (x ≤ y)) (by simp) hbase hb h1 h2 h3)
      have hst := hidden (sorted_strict hC.1)
      have hmem := hidden hC.2
      have hbel := hidden (fun (os : Array Obj) (nn : Nat) => hnx.grown (grownBy_sorted (w := wr) (g := g) (n := nn) (os := os) ((ss.mergeSort fun x y => decide (x ≤ y)).toArray)) hnx.size (fun j hj => by cases hj; exact hbase))
      clear hH hb h1 h2 h3 h4 hC hrow hrg hnx hrow1 hrg0 hg0 hg1 hs0
      go_wp2_with (go_at_call 27; refine hc.mono ?_; rintro e w' ⟨rfl, nn, os, rfl⟩)
      have hL : Hid ((ss.mergeSort leB).map (fun l => (⟨l.toArray⟩ : ByteArray)) = namesC L0) := by
        refine hst.out.same hst0.out (fun x => ?_)
        have hx : x ∈ (ss.mergeSort leB).map (fun l => (⟨l.toArray⟩ : ByteArray)) ↔ x.data.toList ∈ ss := by
          rw [List.mem_map]
          constructor
          · rintro ⟨a, ha, rfl⟩
            simpa using ha
          · intro h
            exact ⟨x.data.toList, by simpa using h, by simp⟩
        rw [hx, hmem.out, ← hhas.out]
        simp [hl0]
      have hln : ss.length = L0.length := by
        have := congrArg List.length hL.out
        simpa [namesC] using this
      have hfr := hfin.out os nn
      have e : tx ((ss.mergeSort leB).map fun l => (⟨l.toArray⟩ : ByteArray)) = (ss.mergeSort fun x y => decide (x ≤ y)).map encStr := by simp [tx, List.map_map]
      rw [← e, hL.out] at hfr
      replace hfr := hidden hfr
      rw [hln] at hfr
      clear e hfin hst hmem
      go_ret
      exact ⟨g, cap, by rw [hln]; rfl, hfr.out, hbel.out os nn⟩
    · intro x c kl yd yp w2 cnt2 hkey hlk hv hat hrg2 hlt hg2 hs2 hen
      obtain ⟨x', ex, rfl, _⟩ := Maps.keyOf_str Tryd.underlying9 hkey
      obtain rfl : x = x' := encStr_inj ex
      have hrow2 := hrow.kept hg2 (Or.inr (row_ne_iter hrow hrg).symm)
      clear hs2
      go_wp2_with (first
        | (at_builtin; refine wpList_append_own _ rfl _ _ 39 rfl w.heap.size 9 i0 (.string ⟨#[]⟩) 1 16 Tryd.underlying39 hi hz0 hz1 hz2 rfl (by decide) _ _ _ rfl (hrow2.alloc _) ⟨w2.heap.size, 0, none⟩ 1 1 [encStr x] rfl rfl (cell_one_new _ _ _) (by simp [Value.oneCell', encStr]) (by unfold maxLen at *; omega) (by omega) (by have := hnx.size; have := hg2.size; simp; omega) ?_; intro v' w3 hown' hg3 hnil3; go_frame)
        | go_in)
      have hrg3 := (hrg2.alloc _).kept hg3 (row_ne_low hrow2 hbl) (row_ne_iter hrow2 hrg2)
      go_roundw
      case rel =>
        refine ⟨_, cnt2, ss ++ [x], hrg3, by simp; omega, by simpa using hown', fun hv' => by have := (hnil3.1 hv').2; omega, hC.step hlk hat, ?_⟩
        exact ((hnx.grown hg2 hnx.size (fun j hj => by cases hj; exact hg1.size)).alloc (by have := hnx.size; have := hg2.size; omega) _).grown hg3 (by have := hnx.size; have := hg2.size; simp; omega) (fun j hj => (hrow2.lt j hj).1)
      case measure => rw [hrg3.left_eq, hrg.left_eq]; exact hlt
end Go.Proofs.YtoijkbnjcnedjaaDoor
/-
  NUMBERS AS TEXTS: the reference's, by contract.
-/
namespace Go.Proofs.YtoijkbnjcnedjaaDoor
open Go.ChangeShapes Go.WideShapes Go.ChangeAt Go.RowKit

def bt (l : List UInt8) : ByteArray := ⟨l.toArray⟩
theorem bt_size (l : List UInt8) : (bt l).size = l.length := by simp [bt, ByteArray.size]
theorem bt_app (l m : List UInt8) : bt l ++ bt m = bt (l ++ m) := by
  apply ByteArray.ext
  simp [bt]
theorem dec_len : ∀ (k u : Nat), u < 10 ^ (k + 1) → (Lib.decDigits u).length ≤ k + 1
  | 0, u, h => by
    rw [Lib.decDigits, dif_pos (by simpa using h)]; simp
  | k + 1, u, h => by
    by_cases h0 : u < 10
    · rw [Lib.decDigits, dif_pos h0]; simp
    · rw [Lib.decDigits, dif_neg h0]
      have := dec_len k (u / 10) (by rw [Nat.pow_succ] at h; omega)
      simp; omega
theorem dec_len20 (u : Nat) (h : u < 18446744073709551616) : (Lib.decDigits u).length ≤ 20 := dec_len 19 u (by omega)
theorem itoa_len (n : Int) (h1 : -9223372036854775808 ≤ n) (h2 : n ≤ 9223372036854775807) : (Lib.itoa n).length ≤ 21 := by
  unfold Lib.itoa
  split
  · have := dec_len20 n.natAbs (by omega)
    simp; omega
  · have := dec_len20 n.toNat (by omega)
    omega
set_option maxHeartbeats 1600000 in
theorem rnum_c (u : Nat) (w : World) (hu : u < 18446744073709551616) : Calls Tryd.prog 33 #[.int .u64 (u : Int)] w fun e w' => e = .returned (.string (bt (Lib.decDigits u))) ∧ w' = w := by
  induction u using Nat.strongRecOn generalizing w with
  | _ u ih =>
    by_cases h : u < 10
    · have e : Lib.decDigits u = [UInt8.ofNat (48 + u)] := by rw [Lib.decDigits, dif_pos h]
      rw [e]
      have hc : u = 0 ∨ u = 1 ∨ u = 2 ∨ u = 3 ∨ u = 4 ∨ u = 5 ∨ u = 6 ∨ u = 7 ∨ u = 8 ∨ u = 9 := by omega
      clear ih e h hu
      rcases hc with rfl | rfl | rfl | rfl | rfl | rfl | rfl | rfl | rfl | rfl
      all_goals
        go_enter Tryd.func33, Tryd.ntmps33
        go_wp2
        go_ret
        exact ⟨rfl, rfl⟩
    · have e : Lib.decDigits u = Lib.decDigits (u / 10) ++ [UInt8.ofNat (48 + u % 10)] := by rw [Lib.decDigits, dif_neg h]
      have e2 : Lib.decDigits (u % 10) = [UInt8.ofNat (48 + u % 10)] := by rw [Lib.decDigits, dif_pos (by omega)]
      rw [e, ← e2]
      have h1 := fun w => ih (u / 10) (by omega) w (by omega)
      have h2 := fun w => ih (u % 10) (by omega) w (by omega)
      have l1 := dec_len20 (u / 10) (by omega)
      have l2 := dec_len20 (u % 10) (by omega)
      have hs : ¬ 9223372036854775807 < (bt (Lib.decDigits (u / 10))).size + (bt (Lib.decDigits (u % 10))).size := by rw [bt_size, bt_size]; omega
      have ha : Hid (bt (Lib.decDigits (u / 10)) ++ bt (Lib.decDigits (u % 10)) = bt (Lib.decDigits (u / 10) ++ Lib.decDigits (u % 10))) := bt_app _ _
      have q1 : (u : Int) / 10 = ((u / 10 : Nat) : Int) := by omega
      have q2 : (u : Int) % 10 = ((u % 10 : Nat) : Int) := by omega
      have hu1 : ¬ (u : Int) < 10 := by omega
      have hu2 : (u : Int) < 18446744073709551616 := by omega
      obtain ⟨Z, hZ⟩ : ∃ Z, Hid (Z = bt (Lib.decDigits (u / 10) ++ Lib.decDigits (u % 10))) := ⟨_, (rfl : _ = _)⟩
      rw [← hZ.out] at ha ⊢
      clear ih e e2 h l1 l2 hZ
      generalize bt (Lib.decDigits (u / 10)) = A at *
      generalize bt (Lib.decDigits (u % 10)) = B at *
      generalize u / 10 = x at *
      generalize u % 10 = y at *
      go_enter Tryd.func33, Tryd.ntmps33
      go_wp2_with fail
      refine (h1 _).mono ?_
      rintro e w' ⟨rfl, rfl⟩
      go_wp2_with fail
      refine (h2 _).mono ?_
      rintro e w' ⟨rfl, rfl⟩
      clear h1 h2
      go_wp2
      go_ret
      exact ⟨by rw [← ha.out]; rfl, rfl⟩
set_option maxHeartbeats 1600000 in
theorem rNum_c (n : Int) (w : World) (h1 : -9223372036854775808 ≤ n) (h2 : n ≤ 9223372036854775807) : Calls Tryd.prog 26 #[.int .i64 n] w fun e w' => e = .returned (.string (bt (Lib.itoa n))) ∧ w' = w := by
  unfold Lib.itoa
  by_cases hn : n < 0
  · rw [if_pos hn]
    obtain ⟨m, hm⟩ : ∃ m : Nat, n.natAbs = m + 1 := ⟨n.natAbs - 1, by omega⟩
    rw [hm]
    have hnum := fun w => rnum_c (m + 1) w (by omega)
    have l1 := dec_len20 (m + 1) (by omega)
    have hs : ¬ 9223372036854775807 < (⟨#[45]⟩ : ByteArray).size + (bt (Lib.decDigits (m + 1))).size := by
      have e : (⟨#[45]⟩ : ByteArray).size = 1 := rfl
      rw [bt_size, e]; omega
    have ha : Hid ((⟨#[45]⟩ : ByteArray) ++ bt (Lib.decDigits (m + 1)) = bt (45 :: Lib.decDigits (m + 1))) := bt_app [45] _
    have e1 : -(n + 1) = (m : Int) := by omega
    have e2 : wrap64 (n + 1) = n + 1 := IntWalk.wrap64_in _ (by omega)
    obtain ⟨Z, hZ⟩ : ∃ Z, Hid (Z = bt (45 :: Lib.decDigits (m + 1))) := ⟨_, (rfl : _ = _)⟩
    rw [← hZ.out] at ha ⊢
    have e3 : ((m + 1 : Nat) : Int) = (m : Int) + 1 := by omega
    rw [e3] at hnum
    clear hZ l1 hm e3
    generalize bt (Lib.decDigits (m + 1)) = B at *
    have hm1 : (m : Int) ≤ 9223372036854775807 := by omega
    go_enter Tryd.func26, Tryd.ntmps26
    go_wp2_with fail
    refine (hnum _).mono ?_
    rintro e w' ⟨rfl, rfl⟩
    clear hnum
    go_wp2
    go_ret
    exact ⟨by rw [← ha.out]; rfl, rfl⟩
  · rw [if_neg hn]
    obtain ⟨m, rfl⟩ := Int.eq_ofNat_of_zero_le (show 0 ≤ n by omega)
    rw [Int.toNat_natCast]
    have hnum := fun w => rnum_c m w (by omega)
    generalize bt (Lib.decDigits m) = B at *
    go_enter Tryd.func26, Tryd.ntmps26
    go_wp2_with fail
    refine (hnum _).mono ?_
    rintro e w' ⟨rfl, rfl⟩
    clear hnum
    go_wp2
    go_ret
    exact ⟨rfl, rfl⟩
end Go.Proofs.YtoijkbnjcnedjaaDoor
/-
  METERS: Lines, by contract.
-/
namespace Go.Proofs.YtoijkbnjcnedjaaDoor
open Go.ChangeShapes Go.WideShapes Go.ChangeAt Go.RowKit Go.Maps

def lineC (c : Ct) : ByteArray := (c.s ++ ⟨#[32]⟩) ++ bt (Lib.itoa c.k)
def Ct.none : Ct := ⟨⟨#[]⟩, 0⟩
def linesC (L : List Ct) : List ByteArray := L.map lineC ++ [(⟨#[97, 108, 108, 32]⟩ : ByteArray) ++ bt (Lib.itoa (sumC L))]
theorem linesC_len (L : List Ct) : (linesC L).length = L.length + 1 := by simp [linesC]
theorem ofC_at : ∀ (L : List Ct) (k : Nat), StrictT (namesC L) → k < L.length → ofC (L.getD k Ct.none).s L = (L.getD k Ct.none).k
  | c :: r, 0, _, _ => by simp [ofC]
  | c :: r, k + 1, h, hk => by
    have hs2 : StrictT (namesC r) := (List.pairwise_cons.1 h).2
    have hlt : ∀ y ∈ namesC r, blT c.s y = true := (List.pairwise_cons.1 h).1
    have hk2 : k < r.length := by simpa using hk
    have e : (c :: r).getD (k + 1) Ct.none = r.getD k Ct.none := by simp [List.getD]
    rw [e]
    have hm : (r.getD k Ct.none).s ∈ namesC r := by
      rw [show r.getD k Ct.none = r[k] by simp [List.getD, hk2]]
      exact List.mem_map_of_mem (List.getElem_mem _)
    unfold ofC
    rw [if_neg (blT_ne (hlt _ hm))]
    exact ofC_at r k hs2 hk2
theorem own_shapeT {w : World} {base : Nat} {e : TypeId} {size : Nat} {v : Value} {n : Nat} {xs : List Value} (h : w.ownsRow base e size v n xs) : ∃ a c, v = .slice a n c := by
  rcases h.2 with ⟨h1, h2⟩ | ⟨g, cap, _, h1, _⟩
  · exact ⟨none, 0, by rw [h1, h2]⟩
  · exact ⟨_, cap, h1⟩
theorem own_leT {w : World} {B B' t s n : Nat} {v : Value} {xs : List Value} (h : w.ownsRow B t s v n xs) (hB : B' ≤ B) : w.ownsRow B' t s v n xs := by
  obtain ⟨hl, h⟩ := h
  refine ⟨hl, ?_⟩
  rcases h with h | ⟨g, cap, cur, h1, h2, h3⟩
  · exact .inl h
  · exact .inr ⟨g, cap, cur, h1, Nat.le_trans hB h2, h3⟩
theorem owns_keepT {w w' : World} {base : Nat} {e : TypeId} {size : Nat} {v : Value} {n : Nat} {xs : List Value} (h : w.ownsRow base e size v n xs) (hb : Below w.heap.size w w') : w'.ownsRow base e size v n xs := owns_keep h hb
theorem tx_getL (L : List Ct) (k : Nat) (hk : k < L.length) : (tx (namesC L))[k]? = some (.string (L.getD k Ct.none).s) := by
  simp [tx, namesC, hk]
set_option maxRecDepth 100000 in
set_option maxHeartbeats 3200000 in
theorem mlines_c {b g n : Nat} {D : DataW Unit} {m : Int} {L : List Ct} (w : World) (hM : MtAt w b g n D m L) (hF : Fine m L) (hm2 : m ≤ 1000000000000) (hlen : L.length ≤ 1000000)
    (hT : ∀ x, Below w.heap.size w x → Lib.TabIs Tryd.prog x "internal/strconv.uint64pow10" .u64 Lib.pow10Tab) :
    Calls Tryd.prog 13 #[.pointer (some ⟨b, 0, none⟩)] w fun e w' => ∃ a c, e = .returned (.slice a (linesC L).length c) ∧
      w'.ownsRow w.heap.size 9 1 (.slice a (linesC L).length c) (linesC L).length (tx (linesC L)) ∧ Below w.heap.size w w' := by
  obtain ⟨i0, hi, hz0, hz1, hz2⟩ := info_parts infoTy
  obtain ⟨⟨q0, q1, q2⟩, -⟩ := cell_map hM.box
  have hnm := mnames_c w hM hlen hF.strict
  have hS0 := hF.nonneg
  have hS1 := hF.small
  obtain ⟨N, hN⟩ : ∃ N, N = L.length := ⟨_, rfl⟩
  rw [← hN] at hnm hlen
  have hbM := (Array.getElem?_eq_some_iff.1 hM.box).1
  replace hN := hidden hN
  replace hM := hidden hM
  replace hF := hidden hF
  replace hT := hidden hT
  go_enter Tryd.func13, Tryd.ntmps13
  go_wp2_with fail
  refine hnm.mono ?_
  rintro e w1 ⟨gn, capn, rfl, hrow, hB1⟩
  have hrow1 := hidden hrow
  have hBh := hidden hB1
  clear hnm hrow hB1 q0 q1 q2
  go_wp2
  go_loopw [3, 11] (fun v i x => ∃ k : Nat, i = .int .i64 k ∧ k ≤ N ∧ Hid (x.ownsRow w1.heap.size 9 1 v k (tx ((L.take k).map lineC))) ∧ Hid (Below w1.heap.size w1 x)) (fun _ i _ => N - (intOf i).toNat)
  case atStart => exact ⟨0, rfl, Nat.zero_le _, World.ownsRow_nil .., Below.refl _ _⟩
  case round =>
    obtain ⟨k, rfl, hk, hrow, hB⟩ := hrel
    have hB2 := hidden (hBh.out.trans (hB.out.mono hBh.out.size))
    have hM2 := hidden (hM.out.below hB2.out)
    obtain ⟨⟨q0, q1, q2⟩, -⟩ := cell_map hM2.out.box
    obtain ⟨va, vc, rfl⟩ := own_shapeT hrow.out
    by_cases hlt : k < N
    · have hlt' : (k : Int) < (N : Int) := by omega
      have hkL : k < L.length := by rw [← hN.out]; exact hlt
      have hc1 : wr.cell? ⟨gn, k, none⟩ = some (.string (L.getD k Ct.none).s) := by
        have h1 := hrow1.out.cellAt k (by omega)
        rw [tx_getL L k hkL] at h1
        have hgl : gn < w1.heap.size := (hrow1.out.lt gn rfl).2
        exact (hB.out.cell (p := ⟨gn, k, none⟩) hgl).trans h1
      have hin : (L.getD k Ct.none) ∈ L := by
        rw [show L.getD k Ct.none = L[k] by simp [List.getD, hkL]]
        exact List.getElem_mem _
      have hat := hidden (ofC_at L k hF.out.strict hkL)
      have hps := hF.out.pos _ hin
      have hks := (sum_pos hF.out.pos).2 _ hin
      have htk : Hid ((L.take (k + 1)).map lineC = (L.take k).map lineC ++ [lineC (L.getD k Ct.none)]) := by
        show _ = _
        rw [take_snocR L Ct.none k hkL, List.map_append]; rfl
      have hval := hidden (hM2.out.val (L.getD k Ct.none).s)
      generalize L.getD k Ct.none = c at *
      obtain ⟨cs, ck⟩ := c
      simp only at hat hps hks hval hc1
      have hkey := hidden (key_txt (s := cs) (by unfold maxLen; omega))
      have hbnd : -9223372036854775808 ≤ ck ∧ ck ≤ 9223372036854775807 := by omega
      have hit := Tryd.strconv_Itoa ck hbnd.1 hbnd.2 wr (hT.out _ hB2.out)
      have hI : (bt (Lib.itoa ck)).size ≤ 21 := by rw [bt_size]; exact itoa_len _ hbnd.1 hbnd.2
      replace hit : Calls Tryd.prog 25 #[.int .i64 ck] wr fun e w' => e = .returned (.string (bt (Lib.itoa ck))) ∧ Below wr.heap.size wr w' := hit.mono fun e w' ⟨he, k, os, hw⟩ => ⟨he, by rw [hw]; exact Go.Lib.below_grow _ _ (Nat.le_refl _) k os⟩
      have hline : Hid (lineC ⟨cs, ck⟩ = (cs ++ ⟨#[32]⟩) ++ bt (Lib.itoa ck)) := hidden rfl
      have hcsz : cs.size ≤ 40 := hps.2
      clear hps hks hin
      generalize lineC ⟨cs, ck⟩ = ln at *
      generalize bt (Lib.itoa ck) = I at *
      have e32 : (⟨#[32]⟩ : ByteArray).size = 1 := rfl
      have ho1 : ¬ 9223372036854775807 < cs.size + (⟨#[32]⟩ : ByteArray).size := by rw [e32]; omega
      have ho2 : ¬ 9223372036854775807 < (cs ++ ⟨#[32]⟩ : ByteArray).size + I.size := by rw [ByteArray.size_append, e32]; omega
      have hcnt : Hid (((L.take k).map lineC).length = k) := by show _ = _; rw [List.length_map, List.length_take]; omega
      go_wp2_with (first
        | (at_lookup; refine wpList_lookup_own_int _ rfl _ _ 47 rfl 9 3 .i64 lawK Tryd.underlying47 Tryd.underlying3 (zeroInt _) g n D rfl hM2.out.own _ _ rfl hkey.out ?_; intro cc hatc hwc; have hcc := hatc.symm.trans hval.out; simp only [DataW.lit.injEq, Lit.int.injEq, true_and] at hcc; rw [hat.out] at hcc; subst hcc; clear hatc hwc)
        | fail)
      refine hit.mono ?_
      rintro e w3 ⟨rfl, hB3⟩
      have hrow3 := hidden (owns_keep hrow.out hB3)
      have hBx := hidden (hB.out.trans (hB3.mono hB.out.size))
      have hln : (cs ++ ⟨#[32]⟩ : ByteArray) ++ I = ln := hline.out.symm
      clear hit hB3 hline hat hval hkey hM2 hrow
      go_wp2_with (first
        | (at_builtin; go_loud (refine wpList_append_own _ rfl _ _ 39 rfl w1.heap.size 9 i0 (.string ⟨#[]⟩) 1 16 Tryd.underlying39 hi hz0 hz1 hz2 rfl (by decide) _ _ _ rfl (hrow3.out.alloc _) ⟨w3.heap.size, 0, none⟩ 1 1 [.string ln] rfl rfl (cells_new _ [_] _) (by simp [Value.oneCell']) (by unfold maxLen; omega) (by omega) (by have := hBx.out.size; simp; omega) ?_); intro v' w4 hown' hg4 hnil4)
        | fail)
      have hB4 := hidden ((hBx.out.alloc hBx.out.size (.cells #[.string ln] 9)).grown hg4 (by have := hBx.out.size; simp; omega) (fun j hj => (hrow3.out.lt j hj).1))
      rw [show tx ((L.take k).map lineC) ++ [.string ln] = tx ((L.take (k + 1)).map lineC) by rw [htk.out]; simp [tx]] at hown'
      replace hown' := hidden hown'
      clear hg4 hnil4 hrow3 hBx htk hcnt
      go_wp2
      go_roundw
      case rel => exact ⟨k + 1, by go_num, by omega, hown', hB4⟩
      case measure => simp [intOf]; omega
    · have hlt' : ¬ (k : Int) < (N : Int) := by omega
      obtain rfl : k = N := by omega
      have htk : L.take k = L := List.take_of_length_le (by rw [← hN.out]; exact Nat.le_refl _)
      rw [htk] at hrow
      have hit := Tryd.strconv_Itoa (sumC L) (by omega) (by omega) wr (hT.out _ hB2.out)
      have hI : (bt (Lib.itoa (sumC L))).size ≤ 21 := by rw [bt_size]; exact itoa_len _ (by omega) (by omega)
      replace hit : Calls Tryd.prog 25 #[.int .i64 (sumC L)] wr fun e w' => e = .returned (.string (bt (Lib.itoa (sumC L)))) ∧ Below wr.heap.size wr w' := hit.mono fun e w' ⟨he, k, os, hw⟩ => ⟨he, by rw [hw]; exact Go.Lib.below_grow _ _ (Nat.le_refl _) k os⟩
      have hlc : Hid (linesC L = L.map lineC ++ [(⟨#[97, 108, 108, 32]⟩ : ByteArray) ++ bt (Lib.itoa (sumC L))]) := hidden rfl
      have hll : Hid ((linesC L).length = k + 1) := by show _ = _; rw [linesC_len, ← hN.out]
      have e4 : (⟨#[97, 108, 108, 32]⟩ : ByteArray).size = 4 := rfl
      generalize bt (Lib.itoa (sumC L)) = I at *
      obtain ⟨LL, hLL⟩ : ∃ LL, Hid (linesC L = LL) := ⟨_, hidden rfl⟩
      rw [hLL.out] at hlc hll
      have ho1 : ¬ 9223372036854775807 < (⟨#[97, 108, 108, 32]⟩ : ByteArray).size + I.size := by rw [e4]; omega
      go_wp2_with fail
      refine hit.mono ?_
      rintro e w3 ⟨rfl, hB3⟩
      have hrow3 := hidden (owns_keep hrow.out hB3)
      have hBx := hidden (hB.out.trans (hB3.mono hB.out.size))
      obtain ⟨ln, hln⟩ : ∃ ln, (⟨#[97, 108, 108, 32]⟩ : ByteArray) ++ I = ln := ⟨_, rfl⟩
      rw [hln] at hlc
      clear hit hB3 hM2 hrow
      go_wp2_with (first
        | (at_builtin; go_loud (refine wpList_append_own _ rfl _ _ 39 rfl w1.heap.size 9 i0 (.string ⟨#[]⟩) 1 16 Tryd.underlying39 hi hz0 hz1 hz2 rfl (by decide) _ _ _ rfl (hrow3.out.alloc _) ⟨w3.heap.size, 0, none⟩ 1 1 [.string ln] rfl rfl (cells_new _ [_] _) (by simp [Value.oneCell']) (by unfold maxLen; omega) (by omega) (by have := hBx.out.size; simp; omega) ?_); intro v' w4 hown' hg4 hnil4)
        | fail)
      have hB4 := hidden ((hBx.out.alloc hBx.out.size (.cells #[.string ln] 9)).grown hg4 (by have := hBx.out.size; simp; omega) (fun j hj => (hrow3.out.lt j hj).1))
      rw [show tx (L.map lineC) ++ [.string ln] = tx LL by rw [hlc.out]; simp [tx], ← hll.out] at hown'
      obtain ⟨a9, c9, rfl⟩ := own_shapeT hown'
      have hfin := hidden (own_leT hown' hBh.out.size)
      have hfb := hidden (hBh.out.trans (hB4.out.mono hBh.out.size))
      clear hg4 hnil4 hrow3 hBx hown' hB4
      go_wp2
      go_ret
      exact ⟨a9, c9, by rw [hLL.out]; rfl, by rw [hLL.out]; exact hfin.out, hfb.out⟩
end Go.Proofs.YtoijkbnjcnedjaaDoor
