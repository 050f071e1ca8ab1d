/-
  ROWS OF TEXTS, rising, each once. No function is named here.
-/
import Derived.Test.YtoijkbnjcnedjaaDoorSl
import Derived.Test.YtoijkbnjcnedjaaDoorRec
namespace Go.Proofs.YtoijkbnjcnedjaaDoor
open Go.ChangeShapes Go.WideShapes Go.ChangeAt Go.RowKit

theorem lt_b_tri : ∀ x y : List UInt8, Op.bytesLess x y = false → Op.bytesLess y x = false → x = y
  | [], [], _, _ => rfl
  | [], _ :: _, h, _ => by simp [Op.bytesLess] at h
  | _ :: _, [], _, h => by simp [Op.bytesLess] at h
  | a :: x, b :: y, h1, h2 => by
    simp only [Op.bytesLess, Bool.or_eq_false_iff, Bool.and_eq_false_iff, decide_eq_false_iff_not, beq_eq_false_iff_ne] at h1 h2
    obtain ⟨h3, h4⟩ := h1
    obtain ⟨h5, h6⟩ := h2
    have e : a = b := UInt8.le_antisymm (UInt8.not_lt.1 h5) (UInt8.not_lt.1 h3)
    subst e
    rw [lt_b_tri x y (by rcases h4 with h | h; exact absurd rfl h; exact h) (by rcases h6 with h | h; exact absurd rfl h; exact h)]
theorem lt_b_irrefl : ∀ x : List UInt8, Op.bytesLess x x = false
  | [] => rfl
  | a :: x => by simp [Op.bytesLess, lt_b_irrefl x]
theorem lt_b_asymm : ∀ x y : List UInt8, Op.bytesLess x y = true → Op.bytesLess y x = false
  | [], [], h => by simp [Op.bytesLess] at h
  | [], _ :: _, _ => by simp [Op.bytesLess]
  | _ :: _, [], h => by simp [Op.bytesLess] at h
  | a :: x, b :: y, h => by
    simp only [Op.bytesLess, Bool.or_eq_true, Bool.and_eq_true, decide_eq_true_eq, beq_iff_eq] at h
    simp only [Op.bytesLess, Bool.or_eq_false_iff, Bool.and_eq_false_iff, decide_eq_false_iff_not, beq_eq_false_iff_ne]
    rcases h with h | ⟨rfl, h⟩
    · exact ⟨fun h' => absurd (UInt8.lt_trans h h') (UInt8.lt_irrefl a), .inl fun e => by subst e; exact UInt8.lt_irrefl _ h⟩
    · exact ⟨UInt8.lt_irrefl a, .inr (lt_b_asymm x y h)⟩
theorem lt_b_trans : ∀ x y z : List UInt8, Op.bytesLess x y = true → Op.bytesLess y z = true → Op.bytesLess x z = true
  | [], [], _, h, _ => by simp [Op.bytesLess] at h
  | [], _ :: _, [], _, h => by simp [Op.bytesLess] at h
  | [], _ :: _, _ :: _, _, _ => by simp [Op.bytesLess]
  | _ :: _, [], _, h, _ => by simp [Op.bytesLess] at h
  | _ :: _, _ :: _, [], _, h => by simp [Op.bytesLess] at h
  | a :: x, b :: y, c :: z, h1, h2 => by
    simp only [Op.bytesLess, Bool.or_eq_true, Bool.and_eq_true, decide_eq_true_eq, beq_iff_eq] at h1 h2 ⊢
    rcases h1 with h1 | ⟨rfl, h1⟩
    · rcases h2 with h2 | ⟨rfl, h2⟩
      · exact .inl (UInt8.lt_trans h1 h2)
      · exact .inl h1
    · rcases h2 with h2 | ⟨rfl, h2⟩
      · exact .inl h2
      · exact .inr ⟨rfl, lt_b_trans x y z h1 h2⟩
/-- Texts, as they lie. -/
def tx (L : List ByteArray) : List Value := L.map Value.string
theorem tx_len (L : List ByteArray) : (tx L).length = L.length := by simp [tx]
theorem tx_one (L : List ByteArray) : ∀ u ∈ tx L, u.oneCell' = true := fun u hu => by
  simp only [tx, List.mem_map] at hu
  obtain ⟨x, _, rfl⟩ := hu
  rfl
theorem tx_at (L : List ByteArray) (d : ByteArray) (k : Nat) (hk : k < L.length) : (tx L)[k]? = some (.string (L.getD k d)) := by simp [tx, hk]
theorem tx_app (L M : List ByteArray) : tx (L ++ M) = tx L ++ tx M := by simp [tx]
def blT (a b : ByteArray) : Bool := Op.bytesLess a.toList b.toList
theorem txt_inj {a b : ByteArray} (h : a.toList = b.toList) : a = b := by
  rw [ByteArray.toList_eq, ByteArray.toList_eq] at h
  obtain ⟨⟨x⟩⟩ := a
  obtain ⟨⟨y⟩⟩ := b
  simp only at h
  rw [h]
/-- Each before the next. -/
def StrictT (L : List ByteArray) : Prop := L.Pairwise fun a b => blT a b = true
theorem StrictT.nodup {L : List ByteArray} (h : StrictT L) : L.Nodup := h.imp fun {a b} hab e => by
  subst e
  have := lt_b_irrefl a.toList
  unfold blT at hab
  rw [hab] at this
  cases this
theorem StrictT.same {L M : List ByteArray} (hL : StrictT L) (hM : StrictT M) (h : ∀ x, x ∈ L ↔ x ∈ M) : L = M := by
  have hp : L.Perm M := (List.perm_ext_iff_of_nodup hL.nodup hM.nodup).2 h
  refine hp.eq_of_pairwise (le := fun a b => blT a b = true) (fun a b _ _ h1 h2 => ?_) hL hM
  have := lt_b_asymm _ _ h1
  unfold blT at h2
  rw [h2] at this
  cases this
/-- What came of one more. -/
structure PutT (s : ByteArray) (L L' : List ByteArray) : Prop where
  strict : StrictT L → StrictT L'
  mem : ∀ x, x ∈ L' ↔ x = s ∨ x ∈ L
  len : L'.length ≤ L.length + 1
theorem getD_memT {L : List ByteArray} {d : ByteArray} {k : Nat} (h : k < L.length) : L.getD k d ∈ L := by
  rw [show L.getD k d = L[k] by simp [List.getD, h]]
  exact List.getElem_mem _
theorem put_same {s d : ByteArray} {L : List ByteArray} {k : Nat} (hk : k < L.length) (he : (L.getD k d).toList = s.toList) : PutT s L L := by
  have he := txt_inj he
  refine ⟨id, fun x => ⟨.inr, fun h => ?_⟩, by omega⟩
  rcases h with rfl | h
  · rw [← he]; exact getD_memT hk
  · exact h
theorem put_new {s d : ByteArray} {L : List ByteArray} {k : Nat} (hk : k ≤ L.length) (hlow : ∀ i, i < k → Op.bytesLess (L.getD i d).toList s.toList = true) (hup : k < L.length → Op.bytesLess (L.getD k d).toList s.toList = false ∧ ¬ (L.getD k d).toList = s.toList) :
    PutT s L (L.take k ++ [s] ++ L.drop k) := by
  refine ⟨fun h => ?_, fun x => ?_, by simp; omega⟩
  · have hcut : StrictT (L.take k ++ L.drop k) := by rw [List.take_append_drop]; exact h
    obtain ⟨h1, h2, h3⟩ := List.pairwise_append.1 hcut
    have hlo : ∀ x ∈ L.take k, blT x s = true := fun x hx => by
      obtain ⟨i, hi, rfl⟩ := List.getElem_of_mem hx
      have hi' : i < k := by rw [List.length_take] at hi; omega
      have := hlow i hi'
      rw [List.getElem_take]
      rwa [show L.getD i d = L[i]'(by omega) by simp [List.getD, show i < L.length by omega]] at this
    have hhi : ∀ x ∈ L.drop k, blT s x = true := fun x hx => by
      have hkl : k < L.length := by
        rcases Nat.lt_or_ge k L.length with h | h
        · exact h
        · rw [List.drop_of_length_le h] at hx; cases hx
      obtain ⟨hb1, hb2⟩ := hup hkl
      have hsy : blT s (L.getD k d) = true := by
        cases hb : blT s (L.getD k d) with
        | true => rfl
        | false => exact absurd (lt_b_tri _ _ hb1 hb) hb2
      have e0 : L.getD k d = L[k] := by simp [List.getD, hkl]
      have ed : L.drop k = L[k] :: L.drop (k + 1) := List.drop_eq_getElem_cons hkl
      rw [ed] at hx h2
      rcases List.mem_cons.1 hx with rfl | hx
      · rwa [e0] at hsy
      · refine lt_b_trans _ _ _ hsy ?_
        rw [e0]
        exact (List.pairwise_cons.1 h2).1 x hx
    refine List.pairwise_append.2 ⟨List.pairwise_append.2 ⟨h1, List.pairwise_singleton _ _, fun a ha b hb => ?_⟩, h2, fun a ha b hb => ?_⟩
    · rw [List.mem_singleton] at hb; subst hb; exact hlo a ha
    · rcases List.mem_append.1 ha with ha | ha
      · exact h3 a ha b hb
      · rw [List.mem_singleton] at ha; subst ha; exact hhi b hb
  · have hm : x ∈ L ↔ x ∈ L.take k ∨ x ∈ L.drop k := by rw [← List.mem_append, List.take_append_drop]
    rw [hm, List.mem_append, List.mem_append, List.mem_singleton]
    constructor
    · rintro ((h | h) | h)
      · exact .inr (.inl h)
      · exact .inl h
      · exact .inr (.inr h)
    · rintro (h | h | h)
      · exact .inl (.inr h)
      · exact .inl (.inl h)
      · exact .inr h
end Go.Proofs.YtoijkbnjcnedjaaDoor
/-
  ROWS OF TEXTS HELD AGAINST EACH OTHER (where they are the same), by contract.
-/
namespace Go.Proofs.YtoijkbnjcnedjaaDoor
open Go.ChangeShapes Go.WideShapes Go.ChangeAt Go.RowKit

set_option maxRecDepth 100000 in
set_option maxHeartbeats 3200000 in
theorem sameT_c (L : List ByteArray) (a b : Option Addr) (ca cb : Nat) (w : World) (ha : RowAt w a (tx L)) (hb : RowAt w b (tx L)) (hl : L.length ≤ 1000000) :
    Calls Tryd.prog 12 #[.slice a L.length ca, .slice b L.length cb] w fun e w' => e = .returned (.bool true) ∧ Below w.heap.size w w' := by
  obtain ⟨N, hN⟩ : ∃ N, N = L.length := ⟨_, rfl⟩
  rw [← hN] at hl ⊢
  have hl1 : ((N : Int) != (N : Int)) = false := by simp
  replace hN := hidden hN
  replace ha := hidden ha
  replace hb := hidden hb
  go_enter Tryd.func12, Tryd.ntmps12
  go_wp2
  clear hl1
  go_loopw [5] (fun i wr => ∃ k : Nat, k ≤ N ∧ i = .int .i64 k ∧ Hid (Below w.heap.size w wr)) (fun i _ => N - (intOf i).toNat)
  case atStart => exact ⟨0, Nat.zero_le _, rfl, Below.refl _ _⟩
  case round =>
    obtain ⟨k, hk, rfl, hB⟩ := hrel
    by_cases hlt : k < N
    · have hlt' : (k : Int) < (N : Int) := by omega
      have hlx : k < L.length := by rw [← hN.out]; exact hlt
      have hr1 := ha.out.below hB.out
      have hr2 := hb.out.below hB.out
      rcases hr1 with h0 | ⟨b1, o1, rfl, _, hc1⟩
      · have := congrArg List.length h0
        rw [tx_len] at this
        simp only [List.length_nil] at this; omega
      rcases hr2 with h0 | ⟨b2, o2, rfl, _, hc2⟩
      · have := congrArg List.length h0
        rw [tx_len] at this
        simp only [List.length_nil] at this; omega
      have c0 := hc1 k _ (tx_at L ⟨#[]⟩ k hlx)
      have d0 := hc2 k _ (tx_at L ⟨#[]⟩ k hlx)
      clear hc1 hc2
      generalize L.getD k ⟨#[]⟩ = x at *
      have hq : (x.toList == x.toList) = true := by simp
      go_wp2
      go_quiet (fail)
      go_wp2
      go_roundw
      case rel => exact ⟨k + 1, by omega, by go_num, below_drewN hB.out _⟩
      case measure => simp [intOf]; omega
    · have hlt' : ¬ (k : Int) < (N : Int) := by omega
      go_wp2
      go_ret
      exact ⟨rfl, hB.out⟩
end Go.Proofs.YtoijkbnjcnedjaaDoor
