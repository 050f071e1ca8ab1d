/-
  ROWS OF TEXTS, rising, each once. No function is named here.
-/
import Derived.Test.YtjgddkbpfpgaoacGreatDoorSl
import Derived.Test.YtjgddkbpfpgaoacGreatDoorGraphs
import Derived.Laws.AppendOwnNone
namespace Go.Proofs.YtjgddkbpfpgaoacGreatDoor
open Go.ChangeShapes Go.WideShapes Go.ChangeAt Go.RowKit

theorem lt_b_tri : ∀ x y : List UInt8, Op.bytesLess x y = false → Op.bytesLess y x = false → x = y
  | [], [], _, _ => rfl
  | [], _ :: _, h, _ => by simp [Op.bytesLess] at h
  | _ :: _, [], _, h => by simp [Op.bytesLess] at h
  | a :: x, b :: y, h1, h2 => by
    simp only [Op.bytesLess, Bool.or_eq_false_iff, Bool.and_eq_false_iff, decide_eq_false_iff_not, beq_eq_false_iff_ne] at h1 h2
    obtain ⟨h3, h4⟩ := h1
    obtain ⟨h5, h6⟩ := h2
    have e : a = b := UInt8.le_antisymm (UInt8.not_lt.1 h5) (UInt8.not_lt.1 h3)
    subst e
    rw [lt_b_tri x y (by rcases h4 with h | h; exact absurd rfl h; exact h) (by rcases h6 with h | h; exact absurd rfl h; exact h)]
theorem lt_b_irrefl : ∀ x : List UInt8, Op.bytesLess x x = false
  | [] => rfl
  | a :: x => by simp [Op.bytesLess, lt_b_irrefl x]
theorem lt_b_asymm : ∀ x y : List UInt8, Op.bytesLess x y = true → Op.bytesLess y x = false
  | [], [], h => by simp [Op.bytesLess] at h
  | [], _ :: _, _ => by simp [Op.bytesLess]
  | _ :: _, [], h => by simp [Op.bytesLess] at h
  | a :: x, b :: y, h => by
    simp only [Op.bytesLess, Bool.or_eq_true, Bool.and_eq_true, decide_eq_true_eq, beq_iff_eq] at h
    simp only [Op.bytesLess, Bool.or_eq_false_iff, Bool.and_eq_false_iff, decide_eq_false_iff_not, beq_eq_false_iff_ne]
    rcases h with h | ⟨rfl, h⟩
    · exact ⟨fun h' => absurd (UInt8.lt_trans h h') (UInt8.lt_irrefl a), .inl fun e => by subst e; exact UInt8.lt_irrefl _ h⟩
    · exact ⟨UInt8.lt_irrefl a, .inr (lt_b_asymm x y h)⟩
theorem lt_b_trans : ∀ x y z : List UInt8, Op.bytesLess x y = true → Op.bytesLess y z = true → Op.bytesLess x z = true
  | [], [], _, h, _ => by simp [Op.bytesLess] at h
  | [], _ :: _, [], _, h => by simp [Op.bytesLess] at h
  | [], _ :: _, _ :: _, _, _ => by simp [Op.bytesLess]
  | _ :: _, [], _, h, _ => by simp [Op.bytesLess] at h
  | _ :: _, _ :: _, [], _, h => by simp [Op.bytesLess] at h
  | a :: x, b :: y, c :: z, h1, h2 => by
    simp only [Op.bytesLess, Bool.or_eq_true, Bool.and_eq_true, decide_eq_true_eq, beq_iff_eq] at h1 h2 ⊢
    rcases h1 with h1 | ⟨rfl, h1⟩
    · rcases h2 with h2 | ⟨rfl, h2⟩
      · exact .inl (UInt8.lt_trans h1 h2)
      · exact .inl h1
    · rcases h2 with h2 | ⟨rfl, h2⟩
      · exact .inl h2
      · exact .inr ⟨rfl, lt_b_trans x y z h1 h2⟩
/-- Texts, as they lie. -/
def tx (L : List ByteArray) : List Value := L.map Value.string
theorem tx_len (L : List ByteArray) : (tx L).length = L.length := by simp [tx]
theorem tx_one (L : List ByteArray) : ∀ u ∈ tx L, u.oneCell' = true := fun u hu => by
  simp only [tx, List.mem_map] at hu
  obtain ⟨x, _, rfl⟩ := hu
  rfl
theorem tx_at (L : List ByteArray) (d : ByteArray) (k : Nat) (hk : k < L.length) : (tx L)[k]? = some (.string (L.getD k d)) := by simp [tx, hk]
theorem tx_app (L M : List ByteArray) : tx (L ++ M) = tx L ++ tx M := by simp [tx]
def blT (a b : ByteArray) : Bool := Op.bytesLess a.toList b.toList
theorem txt_inj {a b : ByteArray} (h : a.toList = b.toList) : a = b := by
  rw [ByteArray.toList_eq, ByteArray.toList_eq] at h
  obtain ⟨⟨x⟩⟩ := a
  obtain ⟨⟨y⟩⟩ := b
  simp only at h
  rw [h]
/-- Each before the next. -/
def StrictT (L : List ByteArray) : Prop := L.Pairwise fun a b => blT a b = true
theorem StrictT.nodup {L : List ByteArray} (h : StrictT L) : L.Nodup := h.imp fun {a b} hab e => by
  subst e
  have := lt_b_irrefl a.toList
  unfold blT at hab
  rw [hab] at this
  cases this
theorem StrictT.same {L M : List ByteArray} (hL : StrictT L) (hM : StrictT M) (h : ∀ x, x ∈ L ↔ x ∈ M) : L = M := by
  have hp : L.Perm M := (List.perm_ext_iff_of_nodup hL.nodup hM.nodup).2 h
  refine hp.eq_of_pairwise (le := fun a b => blT a b = true) (fun a b _ _ h1 h2 => ?_) hL hM
  have := lt_b_asymm _ _ h1
  unfold blT at h2
  rw [h2] at this
  cases this
/-- What came of one more. -/
structure PutT (s : ByteArray) (L L' : List ByteArray) : Prop where
  strict : StrictT L → StrictT L'
  mem : ∀ x, x ∈ L' ↔ x = s ∨ x ∈ L
  len : L'.length ≤ L.length + 1
theorem getD_memT {L : List ByteArray} {d : ByteArray} {k : Nat} (h : k < L.length) : L.getD k d ∈ L := by
  rw [show L.getD k d = L[k] by simp [List.getD, h]]
  exact List.getElem_mem _
theorem put_same {s d : ByteArray} {L : List ByteArray} {k : Nat} (hk : k < L.length) (he : (L.getD k d).toList = s.toList) : PutT s L L := by
  have he := txt_inj he
  refine ⟨id, fun x => ⟨.inr, fun h => ?_⟩, by omega⟩
  rcases h with rfl | h
  · rw [← he]; exact getD_memT hk
  · exact h
theorem put_new {s d : ByteArray} {L : List ByteArray} {k : Nat} (hk : k ≤ L.length) (hlow : ∀ i, i < k → Op.bytesLess (L.getD i d).toList s.toList = true) (hup : k < L.length → Op.bytesLess (L.getD k d).toList s.toList = false ∧ ¬ (L.getD k d).toList = s.toList) :
    PutT s L (L.take k ++ [s] ++ L.drop k) := by
  refine ⟨fun h => ?_, fun x => ?_, by simp; omega⟩
  · have hcut : StrictT (L.take k ++ L.drop k) := by rw [List.take_append_drop]; exact h
    obtain ⟨h1, h2, h3⟩ := List.pairwise_append.1 hcut
    have hlo : ∀ x ∈ L.take k, blT x s = true := fun x hx => by
      obtain ⟨i, hi, rfl⟩ := List.getElem_of_mem hx
      have hi' : i < k := by rw [List.length_take] at hi; omega
      have := hlow i hi'
      rw [List.getElem_take]
      rwa [show L.getD i d = L[i]'(by omega) by simp [List.getD, show i < L.length by omega]] at this
    have hhi : ∀ x ∈ L.drop k, blT s x = true := fun x hx => by
      have hkl : k < L.length := by
        rcases Nat.lt_or_ge k L.length with h | h
        · exact h
        · rw [List.drop_of_length_le h] at hx; cases hx
      obtain ⟨hb1, hb2⟩ := hup hkl
      have hsy : blT s (L.getD k d) = true := by
        cases hb : blT s (L.getD k d) with
        | true => rfl
        | false => exact absurd (lt_b_tri _ _ hb1 hb) hb2
      have e0 : L.getD k d = L[k] := by simp [List.getD, hkl]
      have ed : L.drop k = L[k] :: L.drop (k + 1) := List.drop_eq_getElem_cons hkl
      rw [ed] at hx h2
      rcases List.mem_cons.1 hx with rfl | hx
      · rwa [e0] at hsy
      · refine lt_b_trans _ _ _ hsy ?_
        rw [e0]
        exact (List.pairwise_cons.1 h2).1 x hx
    refine List.pairwise_append.2 ⟨List.pairwise_append.2 ⟨h1, List.pairwise_singleton _ _, fun a ha b hb => ?_⟩, h2, fun a ha b hb => ?_⟩
    · rw [List.mem_singleton] at hb; subst hb; exact hlo a ha
    · rcases List.mem_append.1 ha with ha | ha
      · exact h3 a ha b hb
      · rw [List.mem_singleton] at ha; subst ha; exact hhi b hb
  · have hm : x ∈ L ↔ x ∈ L.take k ∨ x ∈ L.drop k := by rw [← List.mem_append, List.take_append_drop]
    rw [hm, List.mem_append, List.mem_append, List.mem_singleton]
    constructor
    · rintro ((h | h) | h)
      · exact .inr (.inl h)
      · exact .inl h
      · exact .inr (.inr h)
    · rintro (h | h | h)
      · exact .inl (.inr h)
      · exact .inl (.inl h)
      · exact .inr h
end Go.Proofs.YtjgddkbpfpgaoacGreatDoor
/-
  ONE TEXT MORE IN A RISING LIST (the reference's Put), by contract.
-/
namespace Go.Proofs.YtjgddkbpfpgaoacGreatDoor
open Go.ChangeShapes Go.WideShapes Go.ChangeAt Go.RowKit

theorem infoTx : (Tryz.prog.info? 9).map (fun i => (i.zero, i.size, i.bytes)) = some (some (.string ⟨#[]⟩), 1, 16) := by kernel_rfl
set_option maxRecDepth 100000 in
set_option maxHeartbeats 3200000 in
theorem rputT_c (s : ByteArray) (L : List ByteArray) (g og cap : Nat) (w : World) (hsl : Sl w (.slice (some ⟨g, og, none⟩) L.length cap) (tx L)) (hl : L.length ≤ 100000) :
    Calls Tryz.prog 28 #[.slice (some ⟨g, og, none⟩) L.length cap, .string s] w fun e w' =>
      ∃ g' og' cap' L', e = .returned (.slice (some ⟨g', og', none⟩) (List.length L') cap') ∧ Sl w' (.slice (some ⟨g', og', none⟩) L'.length cap') (tx L') ∧ PutT s L L' ∧ Below w.heap.size w w' := by
  obtain ⟨i0, hi, hz0, hz1, hz2⟩ := info_parts infoTx
  obtain ⟨N, hN⟩ : ∃ N, N = L.length := ⟨_, rfl⟩
  rw [← hN] at hsl hl ⊢
  replace hN := hidden hN
  replace hsl := hidden hsl
  go_enter Tryz.func28, Tryz.ntmps28
  go_wp2
  go_loop [5] (fun u => ∃ j : Nat, j ≤ N ∧ u = .int .i64 (j : Int) ∧ Hid (∀ i, i < j → Op.bytesLess (L.getD i ⟨#[]⟩).toList s.toList = true)) (fun u => N - (intOf u).toNat)
  case atStart => exact ⟨0, Nat.zero_le _, rfl, (fun i hi => absurd hi (Nat.not_lt_zero i) : ∀ i, i < 0 → Op.bytesLess (L.getD i ⟨#[]⟩).toList s.toList = true)⟩
  case round =>
    obtain ⟨j, hj, rfl, hlow⟩ := hrel
    by_cases hlt : j < N
    · have hlt' : (j : Int) < (N : Int) := by omega
      have hcx : w.cell? ⟨g, og + j, none⟩ = some (.string (L.getD j ⟨#[]⟩)) := by
        obtain ⟨a, c, h1, _, _, _, h5⟩ := hsl.out
        simp only [Value.slice.injEq] at h1
        obtain ⟨rfl, _, _⟩ := h1
        rcases h5 with h5 | ⟨b, off, h6, _, h8⟩
        · have := congrArg List.length h5
          rw [tx_len, ← hN.out] at this
          simp only [List.length_nil] at this; omega
        · simp only [Option.some.injEq, Addr.mk.injEq, and_true] at h6
          obtain ⟨rfl, rfl⟩ := h6
          exact h8 j _ (tx_at L _ j (by rw [← hN.out]; exact hlt))
      have hnext : Hid (Op.bytesLess (L.getD j ⟨#[]⟩).toList s.toList = true → ∀ i, i < j + 1 → Op.bytesLess (L.getD i ⟨#[]⟩).toList s.toList = true) := fun h i hi => by
        rcases Nat.lt_or_ge i j with h1 | h1
        · exact hlow.out i h1
        · obtain rfl : i = j := by omega
          exact h
      have hsame : Hid ((L.getD j ⟨#[]⟩).toList = s.toList → PutT s L L) := fun h => put_same (by rw [← hN.out]; exact hlt) h
      have hnew : Hid (Op.bytesLess (L.getD j ⟨#[]⟩).toList s.toList = false → ¬ (L.getD j ⟨#[]⟩).toList = s.toList → PutT s L (L.take j ++ [s] ++ L.drop j)) := fun h1 h2 => put_new (d := ⟨#[]⟩) (by rw [← hN.out]; exact hj) hlow.out fun _ => ⟨h1, h2⟩
      clear hlow
      generalize L.getD j ⟨#[]⟩ = y at *
      cases hb : Op.bytesLess y.toList s.toList with
      | true =>
        have hlow2 := hidden (hnext.out hb)
        clear hnext hsame hnew
        go_wp2
        go_round
        case rel => exact ⟨j + 1, by omega, by go_num, hlow2⟩
        case measure => simp [intOf]; omega
      | false =>
        clear hnext
        by_cases hs : y.toList = s.toList
        · have hput := hidden (hsame.out hs)
          have hs1 : (y.toList == s.toList) = true := by simp [hs]
          clear hs hsame hnew
          go_wp2
          go_ret
          exact ⟨g, og, cap, L, by rw [hN.out]; first | done | rfl, by rw [← hN.out]; exact hsl.out, hput.out, Below.refl _ _⟩
        · have hput := hidden (hnew.out hb hs)
          have hs1 : (y.toList == s.toList) = false := by simp [hs]
          clear hs hsame hnew
          have hjl : j ≤ N := hj
          have hS1 := hsl.out.to' j hjl
          have hS2 := hsl.out.from' j hjl
          have hnco : j ≤ cap := by
            obtain ⟨_, cap', hcc, hnco, -⟩ := hsl.out
            rw [tx_len, ← hN.out] at hnco
            simp only [Value.slice.injEq] at hcc
            omega
          have hlL := hN
          have hl1 : ((tx L).take j).length = j := by rw [List.length_take, tx_len, ← hN.out]; omega
          have hl2 : ((tx L).drop j).length = N - j := by rw [List.length_drop, tx_len, ← hN.out]
          have hc1 : ∀ u ∈ (tx L).take j, u.oneCell' = true := fun u hu => tx_one _ u (List.mem_of_mem_take hu)
          have hc2 : ∀ u ∈ (tx L).drop j, u.oneCell' = true := fun u hu => tx_one _ u (List.mem_of_mem_drop hu)
          obtain ⟨L', hL'⟩ : ∃ L', Hid (L' = L.take j ++ [s] ++ L.drop j) := ⟨_, hidden rfl⟩
          have hT : Hid (tx L' = (tx L).take j ++ [(.string s)] ++ (tx L).drop j) := by
            show _ = _
            rw [hL'.out]; simp [tx, List.map_take, List.map_drop]
          have hlen' : Hid (L'.length = N + 1) := by
            show _ = _
            have := hN.out; rw [hL'.out, hN.out]; simp; first | done | omega
          have hputL : Hid (PutT s L L') := by show PutT ..; rw [hL'.out]; exact hput.out
          clear hput
          generalize (tx L).take j = T1 at *
          generalize (tx L).drop j = T2 at *
          clear hsl hlL
          have hjN : (j : Int) ≤ (N : Int) := by omega
          have hjC : (j : Int) ≤ (cap : Int) := by omega
          go_wp2_with fail
          clear hs1
          go_region_law (first
            | (refine step_app rfl (.tmp 33) (.tmp 36) 38 rfl w.heap.size 9 i0 (.string ⟨#[]⟩) 16 Tryz.underlying38 hi hz0 hz1 hz2 rfl (by simp [Act.eval]) (World.ownsRow_made w.drew #[] 0 (Nat.le_refl _) (by unfold maxLen; omega) rfl) (by simp [Act.eval]) (hS1.below ((Below.refl w.heap.size w).drew.alloc (Nat.le_refl _) _)) hc1 (by rw [hl1]; unfold maxLen; omega) (by rw [hl1]; omega) (by simp <;> omega) ?_; intro v1 w1 hown1 hgrow1 hsm1; have hB1 := ((Below.refl w.heap.size w).drew.alloc (Nat.le_refl _) _).grown hgrow1 (by simp <;> omega) (fun j hj => by cases hj; simp))
            | (refine step_app rfl (.tmp 33) (.tmp 36) 38 rfl w.heap.size 9 i0 (.string ⟨#[]⟩) 16 Tryz.underlying38 hi hz0 hz1 hz2 rfl (by simp [Act.eval]) ((World.ownsRow_made w.drew #[] 0 (Nat.le_refl _) (by unfold maxLen; omega) rfl).alloc (.cells #[(.string s)] 9)) (by simp [Act.eval]) (hS1.below (((Below.refl w.heap.size w).drew.alloc (Nat.le_refl _) _).alloc (by simp) _)) hc1 (by rw [hl1]; unfold maxLen; omega) (by rw [hl1]; omega) (by simp <;> omega) ?_; intro v1 w1 hown1 hgrow1 hsm1; have hB1 := (((Below.refl w.heap.size w).drew.alloc (Nat.le_refl _) _).alloc (by simp) _).grown hgrow1 (by simp <;> omega) (fun j hj => by cases hj; simp); have h54 := (Sl.one (w.drew.alloc (.cells #[] 9)) (.string s) 9).grown hgrow1 (by simp [Value.ownBlock]))
            | (refine step_app rfl (.tmp 33) (.tmp 36) 38 rfl w.heap.size 9 i0 (.string ⟨#[]⟩) 16 Tryz.underlying38 hi hz0 hz1 hz2 rfl (by simp [Act.eval]) (World.ownsRow_made (w.drew.alloc (.cells #[(.string s)] 9)) #[] 0 (by simp) (by unfold maxLen; omega) rfl) (by simp [Act.eval]) (hS1.below (((Below.refl w.heap.size w).drew.alloc (Nat.le_refl _) _).alloc (by simp) _)) hc1 (by rw [hl1]; unfold maxLen; omega) (by rw [hl1]; omega) (by simp <;> omega) ?_; intro v1 w1 hown1 hgrow1 hsm1; have hB1 := (((Below.refl w.heap.size w).drew.alloc (Nat.le_refl _) _).alloc (by simp) _).grown hgrow1 (by simp <;> omega) (fun j hj => by cases hj; simp); have h54 := ((Sl.one w.drew (.string s) 9).alloc (.cells #[] 9)).grown hgrow1 (by simp [Value.ownBlock]))
            | (refine step_app rfl (.tmp 37) (.tmp 39) 38 rfl w.heap.size 9 i0 (.string ⟨#[]⟩) 16 Tryz.underlying38 hi hz0 hz1 hz2 rfl (by simp [Act.eval]) (hown1.alloc _) (by simp [Act.eval]) (Sl.one w1 (.string s) 9) (fun u hu => by simp at hu; subst hu; rfl) (by simp only [hl1, List.length_cons, List.length_nil]; unfold maxLen; omega) (by simp only [hl1, List.length_cons, List.length_nil]; omega) (by first | exact hB1.size | (simp; exact Nat.le_succ_of_le hB1.size)) ?_; intro v2 w2 hown2 hgrow2 hsm2; have hB2 := (hB1.alloc hB1.size _).grown hgrow2 (by first | exact hB1.size | (simp; exact Nat.le_succ_of_le hB1.size)) (fun j hj => (hown1.lt j hj).1))
            | (refine step_app rfl (.tmp 37) (.tmp 39) 38 rfl w.heap.size 9 i0 (.string ⟨#[]⟩) 16 Tryz.underlying38 hi hz0 hz1 hz2 rfl (by simp [Act.eval]) hown1 (by simp [Act.eval]) h54 (fun u hu => by simp at hu; subst hu; rfl) (by simp only [hl1, List.length_cons, List.length_nil]; unfold maxLen; omega) (by simp only [hl1, List.length_cons, List.length_nil]; omega) (by first | exact hB1.size | (simp; exact Nat.le_succ_of_le hB1.size)) ?_; intro v2 w2 hown2 hgrow2 hsm2; have hB2 := hB1.grown hgrow2 (by first | exact hB1.size | (simp; exact Nat.le_succ_of_le hB1.size)) (fun j hj => (hown1.lt j hj).1))
            | (refine step_app rfl (.tmp 40) (.tmp 43) 38 rfl w.heap.size 9 i0 (.string ⟨#[]⟩) 16 Tryz.underlying38 hi hz0 hz1 hz2 rfl (by simp [Act.eval]) hown2 (by simp [Act.eval]) (hS2.below hB2) hc2 (by simp only [hl1, hl2, List.length_cons, List.length_nil]; unfold maxLen; omega) (by simp only [hl1, hl2, List.length_cons, List.length_nil]; omega) hB2.size ?_; intro v3 w3 hown3 hgrow3 hsm3))
          all_goals
            have hB3 := hB2.grown hgrow3 hB2.size (fun j hj => (hown2.lt j hj).1)
            have hown4 : w3.ownsRow w.heap.size 9 1 v3 (0 + T1.length + 1 + T2.length) (tx L') := by rw [hT.out]; exact hown3
            have hne3 : v3 ≠ .slice none 0 0 := fun h => by have := hsm1 (hsm2 (hsm3 h)); cases this
            have hnn : 0 + T1.length + 1 + T2.length = L'.length := by rw [hl1, hl2, hlen'.out]; omega
            rw [hnn] at hown4
            obtain ⟨gg, cc, rfl, -, -⟩ := own_some hown4 hne3
            have hfin := hidden (sl_of_owns hown4)
            have hfb := hidden hB3
            clear hown1 hown2 hown3 hown4 hgrow1 hgrow2 hgrow3 hB1 hB2 hB3 hS1 hS2 hnn hne3
            go_wp2
            all_goals
              go_ret
              exact ⟨gg, 0, cc, L', rfl, hfin.out, hputL.out, hfb.out⟩
    · have hlt' : ¬ (j : Int) < (N : Int) := by omega
      obtain rfl : j = N := by omega
      have hput := hidden (put_new (L := L) (s := s) (d := ⟨#[]⟩) (k := j) (by rw [← hN.out]; exact Nat.le_refl _) hlow.out (fun h => absurd h (by rw [← hN.out]; omega)))
      clear hlow
      have hs1 : True := trivial
      have hjl : j ≤ j := hj
      have hS1 := hsl.out.to' j hjl
      have hS2 := hsl.out.from' j hjl
      have hnco : j ≤ cap := by
        obtain ⟨_, cap', hcc, hnco, -⟩ := hsl.out
        rw [tx_len, ← hN.out] at hnco
        simp only [Value.slice.injEq] at hcc
        omega
      have hlL := hN
      have hl1 : ((tx L).take j).length = j := by rw [List.length_take, tx_len, ← hN.out]; omega
      have hl2 : ((tx L).drop j).length = j - j := by rw [List.length_drop, tx_len, ← hN.out]
      have hc1 : ∀ u ∈ (tx L).take j, u.oneCell' = true := fun u hu => tx_one _ u (List.mem_of_mem_take hu)
      have hc2 : ∀ u ∈ (tx L).drop j, u.oneCell' = true := fun u hu => tx_one _ u (List.mem_of_mem_drop hu)
      obtain ⟨L', hL'⟩ : ∃ L', Hid (L' = L.take j ++ [s] ++ L.drop j) := ⟨_, hidden rfl⟩
      have hT : Hid (tx L' = (tx L).take j ++ [(.string s)] ++ (tx L).drop j) := by
        show _ = _
        rw [hL'.out]; simp [tx, List.map_take, List.map_drop]
      have hlen' : Hid (L'.length = j + 1) := by
        show _ = _
        have := hN.out; rw [hL'.out, hN.out]; simp; first | done | omega
      have hputL : Hid (PutT s L L') := by show PutT ..; rw [hL'.out]; exact hput.out
      clear hput
      generalize (tx L).take j = T1 at *
      generalize (tx L).drop j = T2 at *
      clear hsl hlL
      have hjN : (j : Int) ≤ (j : Int) := by omega
      have hjC : (j : Int) ≤ (cap : Int) := by omega
      go_wp2_with fail
      clear hs1
      go_region_law (first
        | (refine step_app rfl (.tmp 33) (.tmp 36) 38 rfl w.heap.size 9 i0 (.string ⟨#[]⟩) 16 Tryz.underlying38 hi hz0 hz1 hz2 rfl (by simp [Act.eval]) (World.ownsRow_made w.drew #[] 0 (Nat.le_refl _) (by unfold maxLen; omega) rfl) (by simp [Act.eval]) (hS1.below ((Below.refl w.heap.size w).drew.alloc (Nat.le_refl _) _)) hc1 (by rw [hl1]; unfold maxLen; omega) (by rw [hl1]; omega) (by simp <;> omega) ?_; intro v1 w1 hown1 hgrow1 hsm1; have hB1 := ((Below.refl w.heap.size w).drew.alloc (Nat.le_refl _) _).grown hgrow1 (by simp <;> omega) (fun j hj => by cases hj; simp))
        | (refine step_app rfl (.tmp 33) (.tmp 36) 38 rfl w.heap.size 9 i0 (.string ⟨#[]⟩) 16 Tryz.underlying38 hi hz0 hz1 hz2 rfl (by simp [Act.eval]) ((World.ownsRow_made w.drew #[] 0 (Nat.le_refl _) (by unfold maxLen; omega) rfl).alloc (.cells #[(.string s)] 9)) (by simp [Act.eval]) (hS1.below (((Below.refl w.heap.size w).drew.alloc (Nat.le_refl _) _).alloc (by simp) _)) hc1 (by rw [hl1]; unfold maxLen; omega) (by rw [hl1]; omega) (by simp <;> omega) ?_; intro v1 w1 hown1 hgrow1 hsm1; have hB1 := (((Below.refl w.heap.size w).drew.alloc (Nat.le_refl _) _).alloc (by simp) _).grown hgrow1 (by simp <;> omega) (fun j hj => by cases hj; simp); have h54 := (Sl.one (w.drew.alloc (.cells #[] 9)) (.string s) 9).grown hgrow1 (by simp [Value.ownBlock]))
        | (refine step_app rfl (.tmp 33) (.tmp 36) 38 rfl w.heap.size 9 i0 (.string ⟨#[]⟩) 16 Tryz.underlying38 hi hz0 hz1 hz2 rfl (by simp [Act.eval]) (World.ownsRow_made (w.drew.alloc (.cells #[(.string s)] 9)) #[] 0 (by simp) (by unfold maxLen; omega) rfl) (by simp [Act.eval]) (hS1.below (((Below.refl w.heap.size w).drew.alloc (Nat.le_refl _) _).alloc (by simp) _)) hc1 (by rw [hl1]; unfold maxLen; omega) (by rw [hl1]; omega) (by simp <;> omega) ?_; intro v1 w1 hown1 hgrow1 hsm1; have hB1 := (((Below.refl w.heap.size w).drew.alloc (Nat.le_refl _) _).alloc (by simp) _).grown hgrow1 (by simp <;> omega) (fun j hj => by cases hj; simp); have h54 := ((Sl.one w.drew (.string s) 9).alloc (.cells #[] 9)).grown hgrow1 (by simp [Value.ownBlock]))
        | (refine step_app rfl (.tmp 37) (.tmp 39) 38 rfl w.heap.size 9 i0 (.string ⟨#[]⟩) 16 Tryz.underlying38 hi hz0 hz1 hz2 rfl (by simp [Act.eval]) (hown1.alloc _) (by simp [Act.eval]) (Sl.one w1 (.string s) 9) (fun u hu => by simp at hu; subst hu; rfl) (by simp only [hl1, List.length_cons, List.length_nil]; unfold maxLen; omega) (by simp only [hl1, List.length_cons, List.length_nil]; omega) (by first | exact hB1.size | (simp; exact Nat.le_succ_of_le hB1.size)) ?_; intro v2 w2 hown2 hgrow2 hsm2; have hB2 := (hB1.alloc hB1.size _).grown hgrow2 (by first | exact hB1.size | (simp; exact Nat.le_succ_of_le hB1.size)) (fun j hj => (hown1.lt j hj).1))
        | (refine step_app rfl (.tmp 37) (.tmp 39) 38 rfl w.heap.size 9 i0 (.string ⟨#[]⟩) 16 Tryz.underlying38 hi hz0 hz1 hz2 rfl (by simp [Act.eval]) hown1 (by simp [Act.eval]) h54 (fun u hu => by simp at hu; subst hu; rfl) (by simp only [hl1, List.length_cons, List.length_nil]; unfold maxLen; omega) (by simp only [hl1, List.length_cons, List.length_nil]; omega) (by first | exact hB1.size | (simp; exact Nat.le_succ_of_le hB1.size)) ?_; intro v2 w2 hown2 hgrow2 hsm2; have hB2 := hB1.grown hgrow2 (by first | exact hB1.size | (simp; exact Nat.le_succ_of_le hB1.size)) (fun j hj => (hown1.lt j hj).1))
        | (refine step_app rfl (.tmp 40) (.tmp 43) 38 rfl w.heap.size 9 i0 (.string ⟨#[]⟩) 16 Tryz.underlying38 hi hz0 hz1 hz2 rfl (by simp [Act.eval]) hown2 (by simp [Act.eval]) (hS2.below hB2) hc2 (by simp only [hl1, hl2, List.length_cons, List.length_nil]; unfold maxLen; omega) (by simp only [hl1, hl2, List.length_cons, List.length_nil]; omega) hB2.size ?_; intro v3 w3 hown3 hgrow3 hsm3))
      all_goals
        have hB3 := hB2.grown hgrow3 hB2.size (fun j hj => (hown2.lt j hj).1)
        have hown4 : w3.ownsRow w.heap.size 9 1 v3 (0 + T1.length + 1 + T2.length) (tx L') := by rw [hT.out]; exact hown3
        have hne3 : v3 ≠ .slice none 0 0 := fun h => by have := hsm1 (hsm2 (hsm3 h)); cases this
        have hnn : 0 + T1.length + 1 + T2.length = L'.length := by rw [hl1, hl2, hlen'.out]; omega
        rw [hnn] at hown4
        obtain ⟨gg, cc, rfl, -, -⟩ := own_some hown4 hne3
        have hfin := hidden (sl_of_owns hown4)
        have hfb := hidden hB3
        clear hown1 hown2 hown3 hown4 hgrow1 hgrow2 hgrow3 hB1 hB2 hB3 hS1 hS2 hnn hne3
        go_wp2
        all_goals
          go_ret
          exact ⟨gg, 0, cc, L', rfl, hfin.out, hputL.out, hfb.out⟩
end Go.Proofs.YtjgddkbpfpgaoacGreatDoor
