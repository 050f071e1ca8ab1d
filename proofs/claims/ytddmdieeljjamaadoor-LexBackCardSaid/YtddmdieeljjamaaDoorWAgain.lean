/-
  WORDS THAT ARE PRINTED ARE READ AGAIN. Mathematics alone.
-/
import Derived.Test.YtddmdieeljjamaaDoorWRefs
import Derived.Test.YtddmdieeljjamaaDoorLRPrint
namespace Go.Proofs.YtddmdieeljjamaaDoor
open Go.ChangeShapes Go.WideShapes Go.ChangeAt Go.RowKit

def bl (s : ByteArray) : List UInt8 := s.data.toList
theorem tx_bl (s : ByteArray) : tx (bl s) = s := by apply ByteArray.ext; simp [tx, bl]
theorem bl_tx (l : List UInt8) : bl (tx l) = l := by simp [tx, bl]
theorem bl_size (s : ByteArray) : (bl s).length = s.size := by simp [bl]
theorem tx_from (l : List UInt8) (i : Nat) : (tx l).extract i (tx l).size = tx (l.drop i) := by
  apply ByteArray.ext
  apply Array.ext'
  rw [ByteArray.data_extract, Array.toList_extract, tx_size]
  simp [tx, List.extract_eq_take_drop]
  exact List.take_of_length_le (by simp)
theorem tx_to (a r : List UInt8) : (tx (a ++ r)).extract 0 a.length = tx a := by
  apply ByteArray.ext
  apply Array.ext'
  rw [ByteArray.data_extract, Array.toList_extract]
  simp [tx, List.extract_eq_take_drop]
/-- What may stand behind a word. -/
def Behind (r : List UInt8) : Prop := r = [] ∨ ∃ q, r = 32 :: q
theorem byte_app (a r : List UInt8) {j : Nat} (h : j < a.length) : byteAt (tx (a ++ r)) j = byteAt (tx a) j := by
  rw [tx_byte, tx_byte]
  simp [List.getD, List.getElem?_append_left h]
theorem okN_app (a r : List UInt8) {j : Nat} (h : j < a.length) : okN (tx (a ++ r)) j = okN (tx a) j := by
  unfold okN
  rw [byte_app a r h]
theorem okN_blank {s : ByteArray} {j : Nat} (h : byteAt s j = 32) : okN s j = false := by
  unfold okN
  rw [h]
  simp [isLt, isDig]
theorem nameLen_behind {a r : List UInt8} (hb : Behind r) (h : ∀ j, j < a.length → okN (tx a) j = true) : nameLen (tx (a ++ r)) = a.length := by
  refine nameLen_eq (by rw [tx_size]; simp) (fun j hj => by rw [okN_app a r hj]; exact h j hj) ?_
  rintro ⟨h1, h2⟩
  rcases hb with rfl | ⟨q, rfl⟩
  · rw [tx_size] at h1; simp at h1
  · rw [okN_blank (by rw [(byte_mid a 32 q).1]; rfl)] at h2
    cases h2
theorem nameLen_zero {s : ByteArray} (h : isLt (byteAt s 0) = false) : nameLen s = 0 :=
  nameLen_eq (Nat.zero_le _) (fun j hj => by omega) (by rintro ⟨_, h2⟩; unfold okN at h2; rw [h] at h2; simp at h2)
theorem nameTo_ok (s : ByteArray) : ∀ f k j, k ≤ j → j < nameTo s f k → okN s j = true
  | 0, k, j, h1, h2 => by
    have : j < k := h2
    omega
  | f + 1, k, j, h1, h2 => by
    rw [nameTo] at h2
    split at h2
    · rename_i h3
      by_cases hj : j = k
      · rw [hj]; exact h3.2
      · exact nameTo_ok s f (k + 1) j (by omega) h2
    · omega
theorem nameLen_ok (s : ByteArray) {j : Nat} (h : j < nameLen s) : okN s j = true := nameTo_ok s _ _ j (Nat.zero_le _) h
/-- Words as they are read. -/
inductive GW : Wd → Prop
  | name (t : ByteArray) (p : Int) (h1 : 1 ≤ t.size) (h2 : t.size ≤ 30) (h : ∀ j, j < t.size → okN t j = true) : GW ⟨if keyB t then 2 else 1, t, 0, 0, ⟨#[]⟩, p⟩
  | num (n p : Int) (h1 : -1000000000000 ≤ n) (h2 : n ≤ 1000000000000) : GW ⟨3, ⟨#[]⟩, 1, n, tx [], p⟩
  | text (l : List UInt8) (p : Int) (h1 : ∀ u ∈ l, plainB ((u : UInt8).toNat : Int) = true) (h2 : l.length ≤ 100) : GW ⟨3, ⟨#[]⟩, 2, 0, tx l, p⟩
  | sign (t : ByteArray) (p : Int) (h : t ∈ siL) : GW ⟨4, t, 0, 0, ⟨#[]⟩, p⟩
theorem best_in (s : ByteArray) : ∀ k, k ≤ 22 → bestTo s k = ⟨#[]⟩ ∨ bestTo s k ∈ siL
  | 0, _ => .inl (bestTo_zero s)
  | k + 1, h => by
    rw [bestTo_succ s k (by omega)]
    unfold bestStep
    split
    · right
      have hk : k < siL.length := by rw [siL_len]; omega
      simp [List.getD, hk]
    · exact best_in s k (by omega)
theorem best_mem (s : ByteArray) (h : (bestOf s).size ≠ 0) : bestOf s ∈ siL := by
  rcases best_in s 22 (Nat.le_refl _) with h2 | h2
  · rw [bestTo_all] at h2
    rw [h2] at h
    exact absurd rfl h
  · rwa [bestTo_all] at h2
theorem read_ways (s : ByteArray) (h : (readS s).e = 0) : ((readS s).k = 1 ∧ -1000000000000 ≤ (readS s).n ∧ (readS s).n ≤ 1000000000000 ∧ (readS s).t = []) ∨ ((readS s).k = 2 ∧ (readS s).n = 0 ∧ (∀ u ∈ (readS s).t, plainB ((u : UInt8).toNat : Int) = true) ∧ (readS s).t.length ≤ 100) := by
  have ht := text_good s s.size 1 [] (fun u hu => by cases hu) (by simp)
  have h1 := num_good s true s.size 1 0 (by omega)
  have h2 := num_good s false s.size 0 0 (by omega)
  have key : readS s = .bad 7 ∨ readS s = .bad 2 ∨ readS s = textS s s.size 1 [] ∨ readS s = numS s true s.size 1 0 ∨ readS s = numS s false s.size 0 0 := by
    unfold readS
    repeat' split
    all_goals simp
  rcases key with e | e | e | e | e <;> rw [e] at h ⊢
  · cases h
  · cases h
  · exact .inr (ht h)
  · exact .inl (h1 h)
  · exact .inl (h2 h)
theorem ext0_byte (s : ByteArray) {n j : Nat} (hn : n ≤ s.size) (hj : j < n) : byteAt (s.extract 0 n) j = byteAt s j := by
  have e : s = tx ((bl s).take n ++ (bl s).drop n) := by rw [List.take_append_drop, tx_bl]
  have hl : ((bl s).take n).length = n := by rw [List.length_take, bl_size]; omega
  have e2 : s.extract 0 n = tx ((bl s).take n) := by
    have h := tx_to ((bl s).take n) ((bl s).drop n)
    rw [hl, ← e] at h
    exact h
  rw [e2]
  conv => rhs; rw [e]
  rw [byte_app _ _ (by rw [hl]; exact hj)]
/-- A word that is read is one of these. -/
theorem word_gw (s : ByteArray) (p : Int) (h : (wordS s).e = 0) : GW ((wordS s).wd p) := by
  have hle := nameLen_le s
  have hok := fun j => nameLen_ok s (j := j)
  have hbm := best_mem s
  unfold wordS at h ⊢
  generalize bestOf s = B at *
  split at h
  · cases h
  · rename_i h1
    rw [if_neg h1]
    split at h
    · rename_i h2
      rw [if_pos h2]
      have hs : (s.extract 0 (nameLen s)).size = nameLen s := by simp; omega
      exact GW.name (s.extract 0 (nameLen s)) p (by rw [hs]; exact h2) (by rw [hs]; omega) fun j hj => by
        rw [hs] at hj
        have := hok j hj
        unfold okN at this ⊢
        rwa [ext0_byte s hle hj]
    · rename_i h2
      rw [if_neg h2]
      split at h
      · rename_i h3
        rw [if_pos h3]
        split at h
        · rename_i h4
          rw [if_pos h4]
          rcases read_ways s h4 with ⟨a, b, c, d⟩ | ⟨a, b, c, d⟩
          · simp only [WR.wd, a, d]
            exact GW.num _ p b c
          · simp only [WR.wd, a, b]
            exact GW.text _ p c d
        · rename_i h4
          exact absurd h h4
      · rename_i h3
        rw [if_neg h3]
        split at h
        · cases h
        · rename_i h4
          rw [if_neg h4]
          exact GW.sign B p (hbm h4)
/-! ### Signs -/
def siLL : List (List UInt8) := [[45, 91], [93, 45, 62], [60, 45, 91], [93, 45], [40], [41], [123], [125], [44], [58], [46], [124], [94], [42], [43], [63], [61], [60, 62], [60], [60, 61], [62], [62, 61]]
theorem siLL_eq : siL.map bl = siLL := rfl
def bestLL (l : List UInt8) : List UInt8 := siLL.foldl (fun b t => if b.length < t.length ∧ t.isPrefixOf l = true then t else b) []
theorem pref_tx (l u : List UInt8) : pref (tx l) (tx u) = u.isPrefixOf l := by
  unfold pref
  rw [tx_size, tx_size]
  by_cases h : u <+: l
  · obtain ⟨r, rfl⟩ := h
    have e := tx_to u r
    have h2 : u.isPrefixOf (u ++ r) = true := List.isPrefixOf_iff_prefix.2 ⟨r, rfl⟩
    rw [h2]
    simp [e]
  · have h2 : u.isPrefixOf l = false := by
      cases hh : u.isPrefixOf l with
      | false => rfl
      | true => exact absurd (List.isPrefixOf_iff_prefix.1 hh) h
    rw [h2]
    by_cases hl : u.length ≤ l.length
    · have : ¬ (tx l).extract 0 u.length = tx u := fun e => by
        apply h
        have e2 : l = l.take u.length ++ l.drop u.length := (List.take_append_drop _ _).symm
        have e3 := tx_to (l.take u.length) (l.drop u.length)
        rw [← e2, List.length_take, Nat.min_eq_left hl, e] at e3
        have e4 : u = l.take u.length := by
          have := congrArg bl e3
          rwa [bl_tx, bl_tx] at this
        rw [e4]
        exact List.take_prefix _ _
      simp [this]
    · simp [hl]
theorem best_tx (l : List UInt8) : bestOf (tx l) = tx (bestLL l) := by
  have key : ∀ (L : List ByteArray) (b : List UInt8), L.foldl (bestStep (tx l)) (tx b) = tx ((L.map bl).foldl (fun b t => if b.length < t.length ∧ t.isPrefixOf l = true then t else b) b) := by
    intro L
    induction L with
    | nil => intro b; rfl
    | cons t L ih =>
      intro b
      simp only [List.foldl_cons, List.map_cons]
      rw [← ih]
      congr 1
      unfold bestStep
      have e : t = tx (bl t) := (tx_bl t).symm
      rw [e, pref_tx, tx_size, tx_size, bl_tx]
      split <;> rfl
  have h := key siL []
  rw [siLL_eq] at h
  exact h
theorem sign_back {t r : List UInt8} (ht : t ∈ siLL) (hr : Behind r) : bestLL (t ++ r) = t := by
  simp only [siLL, List.mem_cons, List.not_mem_nil, or_false] at ht
  rcases hr with rfl | ⟨q, rfl⟩
  · rcases ht with rfl | rfl | rfl | rfl | rfl | rfl | rfl | rfl | rfl | rfl | rfl | rfl | rfl | rfl | rfl | rfl | rfl | rfl | rfl | rfl | rfl | rfl <;> decide
  · rcases ht with rfl | rfl | rfl | rfl | rfl | rfl | rfl | rfl | rfl | rfl | rfl | rfl | rfl | rfl | rfl | rfl | rfl | rfl | rfl | rfl | rfl | rfl <;> simp [bestLL, siLL]
theorem sign_first {t : List UInt8} (ht : t ∈ siLL) : ∃ u q, t = u :: q ∧ isLt (u.toNat : Int) = false ∧ isDig (u.toNat : Int) = false ∧ (u.toNat : Int) ≠ 39 ∧ isBl (u.toNat : Int) = false ∧ ((u.toNat : Int) = 45 → q = [91]) := by
  simp only [siLL, List.mem_cons, List.not_mem_nil, or_false] at ht
  rcases ht with rfl | rfl | rfl | rfl | rfl | rfl | rfl | rfl | rfl | rfl | rfl | rfl | rfl | rfl | rfl | rfl | rfl | rfl | rfl | rfl | rfl | rfl <;> exact ⟨_, _, rfl, by decide, by decide, by decide, by decide, by decide⟩
theorem byte_first (u : UInt8) (q : List UInt8) : byteAt (tx (u :: q)) 0 = (u.toNat : Int) := (byte_mid [] u q).1
theorem siL_bl {t : ByteArray} (h : t ∈ siL) : bl t ∈ siLL := by rw [← siLL_eq]; exact List.mem_map_of_mem h
theorem itoa_first (n : Int) : (∃ u q, Lib.itoa n = u :: q ∧ isD u) ∨ ∃ u q, Lib.itoa n = 45 :: u :: q ∧ isD u := by
  unfold Lib.itoa
  by_cases hn : n < 0
  · rw [if_pos hn]
    obtain ⟨f1, f2, f3⟩ := dec_fold n.natAbs
    generalize Lib.decDigits n.natAbs = D at *
    match D, f3 with
    | u :: D, _ => exact .inr ⟨u, D, rfl, f2 u (by simp)⟩
  · rw [if_neg hn]
    obtain ⟨f1, f2, f3⟩ := dec_fold n.toNat
    generalize Lib.decDigits n.toNat = D at *
    match D, f3 with
    | u :: D, _ => exact .inl ⟨u, D, rfl, f2 u (by simp)⟩
theorem dig_lt {b : Int} (h : isDig b = true) : isLt b = false := by
  unfold isDig at h
  simp only [Bool.and_eq_true, decide_eq_true_eq] at h
  unfold isLt
  have h1 : ¬ 97 ≤ b := by omega
  have h2 : ¬ 65 ≤ b := by omega
  simp [h1, h2]
theorem dig_bl {b : Int} (h : isDig b = true) : isBl b = false := by
  unfold isDig at h
  simp only [Bool.and_eq_true, decide_eq_true_eq] at h
  unfold isBl
  have h1 : b ≠ 9 := by omega
  have h2 : b ≠ 10 := by omega
  have h3 : b ≠ 13 := by omega
  have h4 : b ≠ 32 := by omega
  simp [h1, h2, h3, h4]
theorem lt_bl {b : Int} (h : isLt b = true) : isBl b = false := by
  unfold isLt at h
  simp only [Bool.or_eq_true, Bool.and_eq_true, decide_eq_true_eq] at h
  unfold isBl
  have h1 : b ≠ 9 := by omega
  have h2 : b ≠ 10 := by omega
  have h3 : b ≠ 13 := by omega
  have h4 : b ≠ 32 := by omega
  simp [h1, h2, h3, h4]
theorem wtx_num (n p : Int) (h1 : -1000000000000 ≤ n) (h2 : n ≤ 1000000000000) : bl (wtx ⟨3, ⟨#[]⟩, 1, n, tx [], p⟩) = Lib.itoa n := by
  have h : vtx 1 n (tx []) = tx (printL 1 n (tx []).data.toList) := if_pos ⟨good_num h1 h2, by decide⟩
  show bl (if (3 : Int) = 3 then vtx 1 n (tx []) else ⟨#[]⟩) = _
  rw [if_pos rfl, h, bl_tx]
  rfl
theorem wtx_text (l : List UInt8) (p : Int) (h1 : ∀ u ∈ l, plainB ((u : UInt8).toNat : Int) = true) (h2 : l.length ≤ 100) : bl (wtx ⟨3, ⟨#[]⟩, 2, 0, tx l, p⟩) = 39 :: (escL l ++ [39]) := by
  have h : vtx 2 0 (tx l) = tx (printL 2 0 (tx l).data.toList) := if_pos ⟨good_text h1 h2, by decide⟩
  show bl (if (3 : Int) = 3 then vtx 2 0 (tx l) else ⟨#[]⟩) = _
  rw [if_pos rfl, h, bl_tx]
  show printL 2 0 (bl (tx l)) = _
  rw [bl_tx]
  rfl
theorem wtx_other (k : Int) (t : ByteArray) (vk vn : Int) (vt : ByteArray) (p : Int) (h : k ≠ 3) : wtx ⟨k, t, vk, vn, vt, p⟩ = t := if_neg h
theorem key_ne (t : ByteArray) : (if keyB t then 2 else 1 : Int) ≠ 3 := by split <;> decide
theorem isVal_dig {s : ByteArray} (h : isDig (byteAt s 0) = true) : isVal s = true := by unfold isVal; rw [h]; rfl
set_option maxHeartbeats 800000 in
/-- A word's text is read as that word. -/
theorem word_back {x : Wd} (hx : GW x) {r : List UInt8} (hr : Behind r) : wordS (tx (bl (wtx x) ++ r)) = ⟨x.k, x.t, x.vk, x.vn, x.vt, (wtx x).size, 0⟩ := by
  have hnd : ∀ u q, r = u :: q → ¬ isD u := fun u q e => by
    rcases hr with rfl | ⟨q', rfl⟩
    · cases e
    · cases e; unfold isD; decide
  cases hx with
  | name t p h1 h2 h =>
    rw [wtx_other _ _ _ _ _ _ (key_ne t)]
    have hn := nameLen_behind (a := bl t) hr (fun j hj => by rw [tx_bl]; exact h j (by rwa [bl_size] at hj))
    have he : (tx (bl t ++ r)).extract 0 (nameLen (tx (bl t ++ r))) = t := by rw [hn, tx_to, tx_bl]
    cases hk : keyB t with
    | true =>
      have := word_key (tx (bl t ++ r)) (by rw [hn, bl_size]; omega) (by rw [hn, bl_size]; omega) (by rw [he]; exact hk)
      rw [this, he, hn, bl_size]
      rfl
    | false =>
      have := word_nokey (tx (bl t ++ r)) (by rw [hn, bl_size]; omega) (by rw [hn, bl_size]; omega) (by rw [he]; exact hk)
      rw [this, he, hn, bl_size]
      rfl
  | num n p h1 h2 =>
    have hb := back_num n r h1 h2 hnd
    have hs : (wtx ⟨3, ⟨#[]⟩, 1, n, tx [], p⟩).size = (Lib.itoa n).length := by rw [← bl_size, wtx_num n p h1 h2]
    rw [hs, wtx_num n p h1 h2]
    have hz : nameLen (tx (Lib.itoa n ++ r)) = 0 := nameLen_zero (by
      rcases itoa_first n with ⟨u, q, e, hu⟩ | ⟨u, q, e, hu⟩
      · rw [e, List.cons_append, byte_first]; exact dig_lt hu
      · rw [e, List.cons_append, byte_first]; decide)
    have hv : isVal (tx (Lib.itoa n ++ r)) = true := by
      rcases itoa_first n with ⟨u, q, e, hu⟩ | ⟨u, q, e, hu⟩
      · exact isVal_dig (by rw [e, List.cons_append, byte_first]; exact hu)
      · rw [e]
        unfold isVal
        have b0 : byteAt (tx (45 :: u :: q ++ r)) 0 = 45 := byte_first 45 (u :: q ++ r)
        have b1 : byteAt (tx (45 :: u :: q ++ r)) 1 = (u.toNat : Int) := (byte_mid [45] u (q ++ r)).1
        have hu2 : isDig (u.toNat : Int) = true := hu
        rw [b0, b1, hu2, tx_size]
        simp
    rw [word_val _ hz hv, hb, if_pos rfl]
  | text l p h1 h2 =>
    have hb := back_text l r h1 h2
    have hs : (wtx ⟨3, ⟨#[]⟩, 2, 0, tx l, p⟩).size = (39 :: (escL l ++ [39])).length := by rw [← bl_size, wtx_text l p h1 h2]
    rw [hs, wtx_text l p h1 h2]
    have b0 : byteAt (tx (39 :: (escL l ++ [39]) ++ r)) 0 = 39 := byte_first 39 (escL l ++ [39] ++ r)
    have hz : nameLen (tx (39 :: (escL l ++ [39]) ++ r)) = 0 := nameLen_zero (by rw [b0]; decide)
    have hv : isVal (tx (39 :: (escL l ++ [39]) ++ r)) = true := by unfold isVal; rw [b0]; simp
    rw [word_val _ hz hv, hb, if_pos rfl]
  | sign t p h =>
    rw [wtx_other _ _ _ _ _ _ (by decide)]
    have hm := siL_bl h
    obtain ⟨u, q, e, a1, a2, a3, _, a5⟩ := sign_first hm
    have hbest : bestOf (tx (bl t ++ r)) = t := by rw [best_tx, sign_back hm hr, tx_bl]
    have b0 : byteAt (tx (bl t ++ r)) 0 = (u.toNat : Int) := by rw [e, List.cons_append, byte_first]
    have hz : nameLen (tx (bl t ++ r)) = 0 := nameLen_zero (by rw [b0]; exact a1)
    have hv : isVal (tx (bl t ++ r)) = false := by
      unfold isVal
      rw [b0, a2]
      by_cases h45 : (u.toNat : Int) = 45
      · have hq := a5 h45
        have b1 : byteAt (tx (bl t ++ r)) 1 = 91 := by
          rw [e, hq]
          exact (byte_mid [u] 91 r).1
        rw [b1, h45]
        simp [isDig]
      · simp [a3, h45]
    have h0 : t.size ≠ 0 := by
      rw [← bl_size, e]
      simp
    rw [word_sign _ hz hv, hbest, if_neg h0]
/-- It does not begin with a blank. -/
theorem word_first {x : Wd} (hx : GW x) : ∃ u q, bl (wtx x) = u :: q ∧ isBl (u.toNat : Int) = false := by
  cases hx with
  | name t p h1 h2 h =>
    rw [wtx_other _ _ _ _ _ _ (key_ne t)]
    have hl : 0 < (bl t).length := by rw [bl_size]; exact h1
    have h0 := h 0 h1
    have hb : byteAt t 0 = (((bl t).getD 0 0).toNat : Int) := rfl
    unfold okN at h0
    rw [hb] at h0
    generalize bl t = L at *
    match L, hl with
    | u :: q, _ =>
      refine ⟨u, q, rfl, lt_bl ?_⟩
      simpa using h0
  | num n p h1 h2 =>
    rw [wtx_num n p h1 h2]
    rcases itoa_first n with ⟨u, q, e, hu⟩ | ⟨u, q, e, hu⟩
    · exact ⟨u, q, e, dig_bl hu⟩
    · exact ⟨45, u :: q, e, by decide⟩
  | text l p h1 h2 =>
    rw [wtx_text l p h1 h2]
    exact ⟨39, _, rfl, by decide⟩
  | sign t p h =>
    rw [wtx_other _ _ _ _ _ _ (by decide)]
    obtain ⟨u, q, e, _, _, _, a4, _⟩ := sign_first (siL_bl h)
    exact ⟨u, q, e, a4⟩
end Go.Proofs.YtddmdieeljjamaaDoor
/-
  ALL WORDS ARE READ AGAIN, AND THEIR TEXT IS NOT LONG. Mathematics alone.
-/
namespace Go.Proofs.YtddmdieeljjamaaDoor
open Go.ChangeShapes Go.WideShapes Go.ChangeAt Go.RowKit

def dl (n : Nat) : Nat := (Lib.decDigits n).length
theorem dl_step (n d : Nat) (hd : d < 10) : dl (10 * n + d) ≤ dl n + 1 := by
  unfold dl
  by_cases h : 10 * n + d < 10
  · rw [Lib.decDigits, dif_pos h]
    simp
  · rw [Lib.decDigits, dif_neg h, show (10 * n + d) / 10 = n by omega]
    simp
theorem dl_one (d : Nat) (hd : d < 10) : dl d = 1 := by
  unfold dl
  rw [Lib.decDigits, dif_pos hd]
  rfl
theorem dig_small {b : Int} (h : isDig b = true) : b.toNat - 48 < 10 := by
  unfold isDig at h
  simp only [Bool.and_eq_true, decide_eq_true_eq] at h
  omega
theorem num_sz (s : ByteArray) (neg : Bool) (st : Nat) : ∀ f i n, dl n + st ≤ i → (numS s neg f i n).e = 0 → ∃ N : Nat, (numS s neg f i n).n = (if neg then -(N : Int) else N) ∧ dl N + st ≤ (numS s neg f i n).m
  | 0, i, n, h, _ => ⟨n, rfl, h⟩
  | f + 1, i, n, h, he => by
    rw [numS] at he ⊢
    split at he
    · rename_i h1
      rw [if_pos h1]
      split at he
      · rename_i h2
        rw [if_pos h2]
        have := dl_step n ((byteAt s i).toNat - 48) (dig_small h1.2)
        exact num_sz s neg st f (i + 1) _ (by omega) he
      · cases he
    · rename_i h1
      rw [if_neg h1]
      exact ⟨n, rfl, h⟩
theorem num_first (s : ByteArray) (neg : Bool) (st : Nat) {f : Nat} (hf : 0 < f) (h1 : st < s.size) (h2 : isDig (byteAt s st) = true) (he : (numS s neg f st 0).e = 0) : ∃ N : Nat, (numS s neg f st 0).n = (if neg then -(N : Int) else N) ∧ dl N + st ≤ (numS s neg f st 0).m := by
  obtain ⟨g, rfl⟩ : ∃ g, f = g + 1 := ⟨f - 1, by omega⟩
  rw [numS, if_pos ⟨h1, h2⟩] at he ⊢
  split at he
  · rename_i h3
    rw [if_pos h3]
    have := dl_one _ (dig_small h2)
    exact num_sz s neg st g (st + 1) _ (by rw [show 10 * 0 + ((byteAt s st).toNat - 48) = (byteAt s st).toNat - 48 by omega]; omega) he
  · cases he
theorem text_sz (s : ByteArray) : ∀ f i out, (textS s f i out).e = 0 → (escL (textS s f i out).t).length + i + 1 ≤ (textS s f i out).m + (escL out).length
  | 0, _, _, h => by cases h
  | f + 1, i, out, h => by
    rw [textS] at h ⊢
    split at h
    · rename_i h1
      rw [if_pos h1]
      split at h
      · rename_i h2
        rw [if_pos h2]
        show (escL out).length + i + 1 ≤ i + 1 + (escL out).length
        omega
      · rename_i h2
        rw [if_neg h2]
        split at h
        · rename_i h3
          rw [if_pos h3]
          split at h
          · rename_i h4
            rw [if_pos h4]
            split at h
            · rename_i h5
              rw [if_pos h5]
              split at h
              · cases h
              · rename_i h6
                rw [if_neg h6]
                have := text_sz s f _ _ h
                have h7 : (escL (out ++ [ubyte s (i + 1)])).length = (escL out).length + 2 := by
                  rw [escL_snoc, if_pos (by rw [← byteAt_u]; exact h5)]
                  simp
                omega
            · cases h
          · cases h
        · rename_i h3
          rw [if_neg h3]
          split at h
          · rename_i h4
            rw [if_pos h4]
            split at h
            · cases h
            · rename_i h6
              rw [if_neg h6]
              have := text_sz s f _ _ h
              have h7 : (escL (out ++ [ubyte s i])).length = (escL out).length + 1 := by
                rw [escL_snoc, if_neg (by rw [← byteAt_u]; unfold isSp; simp [h2, h3])]
                simp
              omega
          · cases h
    · cases h
theorem itoa_sz (N : Nat) (neg : Bool) (m st : Nat) (hst : neg = true → st = 1) (h : dl N + st ≤ m) : (Lib.itoa (if neg then -(N : Int) else N)).length ≤ m := by
  unfold dl at h
  cases neg with
  | false =>
    simp only [Bool.false_eq_true, if_false]
    unfold Lib.itoa
    rw [if_neg (by omega), show ((N : Int)).toNat = N by omega]
    omega
  | true =>
    have := hst rfl
    simp only [if_true]
    unfold Lib.itoa
    by_cases hN : N = 0
    · subst hN
      rw [if_neg (by omega), show (-((0 : Nat) : Int)).toNat = 0 by omega]
      omega
    · rw [if_pos (by omega), show (-(N : Int)).natAbs = N by omega]
      simp only [List.length_cons]
      omega
/-- What is printed of a value that was read is not longer than it was. -/
theorem read_sz (s : ByteArray) (h : (readS s).e = 0) : ((readS s).k = 1 → (Lib.itoa (readS s).n).length ≤ (readS s).m) ∧ ((readS s).k = 2 → (escL (readS s).t).length + 2 ≤ (readS s).m) := by
  have hk := read_ways s h
  have ht := text_sz s s.size 1 []
  have tg := text_good s s.size 1 [] (fun u hu => by cases hu) (by simp)
  have n1 := num_good s true s.size 1 0 (by omega)
  have n2 := num_good s false s.size 0 0 (by omega)
  unfold readS at h hk ⊢
  split at h
  · cases h
  · rename_i h0
    rw [if_neg h0] at hk ⊢
    have hs : 0 < s.size := by
      rcases Nat.eq_zero_or_pos s.size with h | h
      · exact absurd (.inl h) h0
      · exact h
    split at h
    · rename_i h1
      rw [if_pos h1] at hk ⊢
      have h2 := ht h
      have h3 := (tg h).1
      exact ⟨fun e => (by rw [h3] at e; cases e), fun _ => by simp [escL_nil] at h2; omega⟩
    · rename_i h1
      rw [if_neg h1] at hk ⊢
      split at h
      · rename_i h2
        rw [if_pos h2] at hk ⊢
        split at h
        · rename_i h3
          rw [if_pos h3] at hk ⊢
          have h4 : 1 < s.size := by
            rcases Nat.lt_or_ge 1 s.size with h5 | h5
            · exact h5
            · exact absurd (.inr ⟨by omega, h2⟩) h0
          obtain ⟨N, e1, e2⟩ := num_first s true 1 hs h4 h3 h
          have h6 := (n1 h).1
          exact ⟨fun _ => by rw [e1]; exact itoa_sz N true _ 1 (fun _ => rfl) e2, fun e => by rw [h6] at e; cases e⟩
        · cases h
      · rename_i h2
        rw [if_neg h2] at hk ⊢
        split at h
        · rename_i h3
          rw [if_pos h3] at hk ⊢
          obtain ⟨N, e1, e2⟩ := num_first s false 0 hs hs h3 h
          have h6 := (n2 h).1
          exact ⟨fun _ => by rw [e1]; exact itoa_sz N false _ 0 (fun e => (by cases e)) e2, fun e => by rw [h6] at e; cases e⟩
        · cases h
/-- A word's text is not longer than it was. -/
theorem word_sz (s : ByteArray) (p : Int) (h : (wordS s).e = 0) : (wtx ((wordS s).wd p)).size ≤ (wordS s).m := by
  by_cases hn : 0 < nameLen s
  · by_cases h30 : 30 < nameLen s
    · rw [word_long s h30] at h; cases h
    · have hs : (s.extract 0 (nameLen s)).size = nameLen s := by have := nameLen_le s; simp; omega
      cases hk : keyB (s.extract 0 (nameLen s)) with
      | true =>
        rw [word_key s h30 hn hk]
        show (wtx ⟨2, s.extract 0 (nameLen s), 0, 0, ⟨#[]⟩, p⟩).size ≤ nameLen s
        rw [wtx_other _ _ _ _ _ _ (by decide), hs]
        exact Nat.le_refl _
      | false =>
        rw [word_nokey s h30 hn hk]
        show (wtx ⟨1, s.extract 0 (nameLen s), 0, 0, ⟨#[]⟩, p⟩).size ≤ nameLen s
        rw [wtx_other _ _ _ _ _ _ (by decide), hs]
        exact Nat.le_refl _
  · cases hv : isVal s with
    | true =>
      have hw := word_val s (by omega) hv
      rw [hw] at h ⊢
      by_cases he : (readS s).e = 0
      · rw [if_pos he] at h ⊢
        obtain ⟨z1, z2⟩ := read_sz s he
        rcases read_ways s he with ⟨a, b, c, d⟩ | ⟨a, b, c, d⟩
        · show (wtx ⟨3, ⟨#[]⟩, (readS s).k, (readS s).n, tx (readS s).t, p⟩).size ≤ (readS s).m
          have := z1 a
          rw [a, d, ← bl_size, wtx_num _ p b c]
          exact this
        · show (wtx ⟨3, ⟨#[]⟩, (readS s).k, (readS s).n, tx (readS s).t, p⟩).size ≤ (readS s).m
          have := z2 a
          rw [a, b, ← bl_size, wtx_text _ p c d]
          simp; omega
      · rw [if_neg he] at h
        exact absurd h he
    | false =>
      have hw := word_sign s (by omega) hv
      rw [hw] at h ⊢
      generalize bestOf s = B at *
      by_cases hB : B.size = 0
      · rw [if_pos hB] at h; cases h
      · rw [if_neg hB]
        show (wtx ⟨4, B, 0, 0, ⟨#[]⟩, p⟩).size ≤ B.size
        rw [wtx_other _ _ _ _ _ _ (by decide)]
        exact Nat.le_refl _
/-- The sum of texts' lengths. -/
def tot (l : List Wd) : Nat := (l.map fun x => (wtx x).size).sum
theorem tot_snoc (l : List Wd) (x : Wd) : tot (l ++ [x]) = tot l + (wtx x).size := by simp [tot]
theorem words_inv (s : ByteArray) : ∀ f i l, i ≤ s.size → (∀ x ∈ l, GW x) → tot l ≤ i → l.length ≤ i → (∀ x ∈ (wordsS s f i l).1, GW x) ∧ tot (wordsS s f i l).1 ≤ s.size ∧ (wordsS s f i l).1.length ≤ s.size
  | 0, i, l, hi, hg, ht, hl => ⟨hg, by show tot l ≤ _; omega, by show l.length ≤ _; omega⟩
  | f + 1, i, l, hi, hg, ht, hl => by
    rw [wordsS]
    split
    · rename_i h1
      split
      · exact words_inv s f (i + 1) l h1 hg (by omega) (by omega)
      · split
        · rename_i h2
          have h3 := word_m _ h2
          have h4 : (s.extract i s.size).size = s.size - i := by simp
          have h5 := word_sz _ i h2
          refine words_inv s f _ _ (by omega) (fun x hx => ?_) (by rw [tot_snoc]; omega) (by simp; omega)
          rcases List.mem_append.1 hx with hx | hx
          · exact hg x hx
          · simp at hx; subst hx; exact word_gw _ _ h2
        · exact ⟨fun x hx => by (cases hx), Nat.zero_le _, Nat.zero_le _⟩
    · exact ⟨hg, by show tot l ≤ _; omega, by show l.length ≤ _; omega⟩
theorem all_inv (s : ByteArray) : (∀ x ∈ (allWords s).1, GW x) ∧ tot (allWords s).1 ≤ s.size ∧ (allWords s).1.length ≤ s.size :=
  words_inv s s.size 0 [] (Nat.zero_le _) (fun x hx => by cases hx) (Nat.zero_le _) (Nat.zero_le _)
/-- Texts, a blank between each two, as bytes. -/
def jl : List (List UInt8) → List UInt8
  | [] => []
  | [a] => a
  | a :: b :: r => a ++ 32 :: jl (b :: r)
theorem jl_jn : ∀ ts : List ByteArray, bl (jn ts) = jl (ts.map bl)
  | [] => rfl
  | [t] => by rw [jn_one]; rfl
  | t :: s :: r => by
    have ih := jl_jn (s :: r)
    show bl (jn (t :: s :: r)) = bl t ++ 32 :: jl ((s :: r).map bl)
    rw [← ih]
    simp [bl, jn, Lib.join_cons, Lib.joinTail]
theorem jl_len : ∀ ts : List (List UInt8), (jl ts).length ≤ (ts.map List.length).sum + ts.length
  | [] => Nat.zero_le _
  | [a] => by simp [jl]
  | a :: b :: r => by
    have ih := jl_len (b :: r)
    show (a ++ 32 :: jl (b :: r)).length ≤ _
    simp only [List.length_append, List.length_cons, List.map_cons, List.sum_cons] at ih ⊢
    omega
/-- Words with their places in their text. -/
def place : List Wd → Nat → List Wd
  | [], _ => []
  | x :: r, i => ⟨x.k, x.t, x.vk, x.vn, x.vt, i⟩ :: place r (i + (wtx x).size + 1)
theorem place_len : ∀ l i, (place l i).length = l.length
  | [], _ => rfl
  | x :: r, i => by simp [place, place_len r]
theorem place_same : ∀ l i j, j < l.length → wsame ((place l i).getD j Wd.none) (l.getD j Wd.none) = true
  | x :: r, i, 0, _ => by simp [place, wsame]
  | x :: r, i, j + 1, h => by
    have := place_same r (i + (wtx x).size + 1) j (by simpa using h)
    simpa [place] using this
theorem place_wall (l : List Wd) (i : Nat) : wall (place l i) l = true := wall_all (place_len l i) fun j hj => place_same l i j (by rwa [place_len] at hj)
set_option maxHeartbeats 800000 in
theorem again : ∀ (L : List Wd) (pre : List UInt8) (acc : List Wd) (f : Nat), (∀ x ∈ L, GW x) → (jl (L.map fun x => bl (wtx x))).length ≤ f →
    wordsS (tx (pre ++ jl (L.map fun x => bl (wtx x)))) f pre.length acc = (acc ++ place L pre.length, 0, 0)
  | [], pre, acc, f, _, _ => by
    simp only [List.map_nil, jl, List.append_nil, place]
    exact words_done (by rw [tx_size]; omega)
  | [x], pre, acc, f, hg, hf => by
    have hx := hg x (by simp)
    have hb := word_back hx (r := []) (.inl rfl)
    obtain ⟨u, q, hu, hbl⟩ := word_first hx
    have hsz : (wtx x).size = (bl (wtx x)).length := (bl_size _).symm
    simp only [List.map_cons, List.map_nil, jl, List.append_nil] at hf hb ⊢
    generalize bl (wtx x) = a at *
    have h1 : pre.length < (tx (pre ++ a)).size := by rw [tx_size, hu]; simp
    have h2 : isBl (byteAt (tx (pre ++ a)) pre.length) = false := by rw [hu, (byte_mid pre u q).1]; exact hbl
    have h3 : wordS ((tx (pre ++ a)).extract pre.length (tx (pre ++ a)).size) = ⟨x.k, x.t, x.vk, x.vn, x.vt, (wtx x).size, 0⟩ := by
      rw [tx_from, List.drop_left]; exact hb
    obtain ⟨g, _, _, _, h4⟩ := words_word (l := acc) (f := f) (by rw [tx_size]; simp; omega) h1 h2 (by rw [h3])
    rw [h4, h3]
    simp only
    rw [words_done (by rw [tx_size]; simp; omega)]
    simp [place, WR.wd]
  | x :: y :: r, pre, acc, f, hg, hf => by
    have hx := hg x (by simp)
    obtain ⟨u, q, hu, hbl⟩ := word_first hx
    have hsz : (wtx x).size = (bl (wtx x)).length := (bl_size _).symm
    have hb := fun R => word_back hx (r := 32 :: R) (.inr ⟨R, rfl⟩)
    have hJ : jl ((x :: y :: r).map fun x => bl (wtx x)) = bl (wtx x) ++ 32 :: jl ((y :: r).map fun x => bl (wtx x)) := rfl
    have ih := fun pre acc f hf => again (y :: r) pre acc f (fun z hz => hg z (by simp at hz ⊢; right; exact hz)) hf
    rw [hJ] at hf ⊢
    have hpl : place (x :: y :: r) pre.length = ⟨x.k, x.t, x.vk, x.vn, x.vt, pre.length⟩ :: place (y :: r) (pre.length + (wtx x).size + 1) := rfl
    rw [hpl]
    generalize jl ((y :: r).map fun x => bl (wtx x)) = J at *
    generalize bl (wtx x) = a at *
    have hT : pre ++ (a ++ 32 :: J) = (pre ++ a ++ [32]) ++ J := by simp
    have hl3 : (pre ++ a ++ [32]).length = pre.length + (wtx x).size + 1 := by simp; omega
    have h1 : pre.length < (tx (pre ++ (a ++ 32 :: J))).size := by rw [tx_size, hu]; simp
    have h2 : isBl (byteAt (tx (pre ++ (a ++ 32 :: J))) pre.length) = false := by
      rw [hu]
      have := (byte_mid pre u (q ++ 32 :: J)).1
      rw [List.cons_append, this]; exact hbl
    have h3 : wordS ((tx (pre ++ (a ++ 32 :: J))).extract pre.length (tx (pre ++ (a ++ 32 :: J))).size) = ⟨x.k, x.t, x.vk, x.vn, x.vt, (wtx x).size, 0⟩ := by
      rw [tx_from, List.drop_left]; exact hb J
    obtain ⟨g, hg1, _, _, h4⟩ := words_word (l := acc) (f := f) (by rw [tx_size]; simp at hf ⊢; omega) h1 h2 (by rw [h3])
    rw [h3] at hg1 h4
    rw [h4]
    simp only [WR.wd] at hg1 ⊢
    have h5 : byteAt (tx (pre ++ (a ++ 32 :: J))) (pre.length + (wtx x).size) = 32 := by
      have := (byte_mid (pre ++ a) 32 J).1
      rw [List.append_assoc, List.length_append] at this
      rw [hsz]; exact this
    obtain ⟨g2, hg2, h6⟩ := words_blankS (l := acc ++ [⟨x.k, x.t, x.vk, x.vn, x.vt, pre.length⟩]) hg1 (by rw [tx_size]; simp; omega) (by rw [h5]; decide)
    rw [h6, hT, ← hl3, ih _ _ _ (by rw [tx_size] at hg2; simp at hg2; omega)]
    simp
/-- All words of the text of all words of a text. -/
theorem all_again (s : ByteArray) : allWords (jn ((allWords s).1.map wtx)) = (place (allWords s).1 0, 0, 0) := by
  obtain ⟨hg, _, _⟩ := all_inv s
  generalize (allWords s).1 = L at *
  have e : jn (L.map wtx) = tx ([] ++ jl (L.map fun x => bl (wtx x))) := by
    rw [← tx_bl (jn (L.map wtx)), jl_jn, List.map_map]
    rfl
  have h := again L [] [] (jn (L.map wtx)).size hg (by rw [e, tx_size]; simp)
  rw [← e] at h
  have h2 : wordsS (jn (L.map wtx)) (jn (L.map wtx)).size 0 [] = (place L 0, 0, 0) := by simpa using h
  exact h2
theorem all_text (s : ByteArray) : (jn ((allWords s).1.map wtx)).size ≤ 2 * s.size := by
  obtain ⟨_, h1, h2⟩ := all_inv s
  generalize (allWords s).1 = L at *
  rw [← bl_size, jl_jn]
  have h := jl_len ((L.map wtx).map bl)
  have e : (((L.map wtx).map bl).map List.length).sum = tot L := by
    unfold tot
    rw [List.map_map, List.map_map]
    exact congrArg List.sum (List.map_congr_left fun x _ => bl_size _)
  rw [e] at h
  simp only [List.length_map] at h
  omega
end Go.Proofs.YtddmdieeljjamaaDoor
