/-
  PRODUCTS THAT ARE TOO LARGE: the law's own walk.
-/
import Derived.Test.YtgojieabeaalcaaPCNew
import Derived.Test.YtgojieabeaalcaaPCCheck
import Derived.Test.YtgojieabeaalcaaParts
import Derived.Maps.AppendAt
namespace Go.Proofs.Ytgojieabeaalcaa
open Go.ChangeShapes Go.WideShapes Go.ChangeAt Go.RowKit

theorem own_shape {w : World} {B t s n : Nat} {v : Value} {xs : List Value} (h : w.ownsRow B t s v n xs) : ∃ a c, v = .slice a n c := by
  rcases h.2 with ⟨rfl, h0⟩ | ⟨g, cap, cur, rfl, _⟩
  · exact ⟨none, 0, by rw [h0]⟩
  · exact ⟨_, _, rfl⟩
theorem own0 {w : World} {B t s n : Nat} {v : Value} {xs : List Value} (h : w.ownsRow B t s v n xs) : w.ownsRow 0 t s v n xs := by
  obtain ⟨hl, h⟩ := h
  refine ⟨hl, ?_⟩
  rcases h with h | ⟨g, cap, cur, h1, _, h3⟩
  · exact .inl h
  · exact .inr ⟨g, cap, cur, h1, Nat.zero_le _, h3⟩
theorem ne_types {w : World} {b c : Nat} {x y : Array Value} {t u : TypeId} (h1 : w.heap[b]? = some (.cells x t)) (h2 : w.heap[c]? = some (.cells y u)) (ht : t ≠ u) : b ≠ c := fun e => by
  subst e
  rw [h1] at h2
  injection h2 with h2
  injection h2 with _ h2 _
  exact ht h2
theorem set_oth {w : World} {g b : Nat} {o : Obj} (h : w.heap[b]? = some o) (hne : g ≠ b) (j : Nat) (u : Value) : (w.setCell ⟨g, j, none⟩ u).heap[b]? = some o := by
  simp [World.setCell, Array.getElem?_modify, hne, h]
theorem set_heap {x : World} {b : Nat} {cs : Array Value} {t : TypeId} (h : x.heap[b]? = some (.cells cs t)) (j : Nat) (v : Value) : (x.setCell ⟨b, j, none⟩ v).heap[b]? = some (.cells (cs.setIfInBounds j v) t) := by
  simp [World.setCell, Array.getElem?_modify, h]
theorem own_set {w : World} {B te s n b : Nat} {v : Value} {xs : List Value} {cs : Array Value} {tb : TypeId} (h : w.ownsRow B te s v n xs) (hb : w.heap[b]? = some (.cells cs tb)) (ht : te ≠ tb) (j : Nat) (u : Value) : (w.setCell ⟨b, j, none⟩ u).ownsRow B te s v n xs := by
  obtain ⟨hl, h⟩ := h
  refine ⟨hl, ?_⟩
  rcases h with h | ⟨g, cap, cur, h1, h2, h3, h4⟩
  · exact .inl h
  · exact .inr ⟨g, cap, cur, h1, h2, set_oth h3 (ne_types hb h3 (Ne.symm ht)) j u, h4⟩
theorem row_ne {w : World} {B te s n b : Nat} {v : Value} {xs : List Value} {cs : Array Value} {tb : TypeId} (h : w.ownsRow B te s v n xs) (hb : w.heap[b]? = some (.cells cs tb)) (ht : te ≠ tb) : v.ownBlock ≠ some b := fun e => by
  rcases h.2 with ⟨rfl, _⟩ | ⟨g, cap, cur, rfl, _, h3, _⟩
  · cases e
  · simp only [Value.ownBlock, Option.some.injEq] at e
    subst e
    exact ne_types h3 hb ht rfl
theorem row_grown {w w' : World} {B1 B2 t1 t2 s1 s2 n1 n2 : Nat} {v1 v2 : Value} {xs1 xs2 : List Value} (h1 : w.ownsRow B1 t1 s1 v1 n1 xs1) (h2 : w.ownsRow B2 t2 s2 v2 n2 xs2) (ht : t1 ≠ t2) (hg : w.grownBy w' v2.ownBlock) : w'.ownsRow B1 t1 s1 v1 n1 xs1 := by
  obtain ⟨hl, h⟩ := h1
  refine ⟨hl, ?_⟩
  rcases h with h | ⟨g, cap, cur, e1, e2, e3, e4⟩
  · exact .inl h
  · exact .inr ⟨g, cap, cur, e1, e2, (hg.block g (Array.getElem?_eq_some_iff.1 e3).1 (Ne.symm (row_ne h2 e3 ht.symm))).trans e3, e4⟩
theorem box_grown {w w' : World} {B te s n b : Nat} {v : Value} {xs : List Value} {cs : Array Value} {tb : TypeId} (hb : w.heap[b]? = some (.cells cs tb)) (h : w.ownsRow B te s v n xs) (ht : te ≠ tb) (hg : w.grownBy w' v.ownBlock) : w'.heap[b]? = some (.cells cs tb) :=
  (hg.block _ (Array.getElem?_eq_some_iff.1 hb).1 (Ne.symm (row_ne h hb ht))).trans hb
theorem box_below {w w' : World} {b : Nat} {o : Obj} (h : w.heap[b]? = some o) (hB : Below w.heap.size w w') : w'.heap[b]? = some o := (hB.block _ (Array.getElem?_eq_some_iff.1 h).1).trans h
theorem step_wp {P : Program} {ops : Array Oper} {o : Oper} {a : Act} {w : World} {K : Act → World → Prop} {Q : Exit → Act → World → Prop} {E : Prop} (hg : o.guard = none) (h : o.wp P a w K Q) : if Region.wanted o (yielded ops a.tmps) = true then Oper.wp P o a w K Q else E := by
  have hw : Region.wanted o (yielded ops a.tmps) = true := by simp [Region.wanted, hg]
  rw [if_pos hw]
  exact h
theorem cells_at {x : World} {g : Nat} {v : Value} {t : TypeId} (h : x.heap[g]? = some (.cells #[v] t)) : ∀ j u, [v][j]? = some u → x.cell? ((⟨g, 0, none⟩ : Addr).add j) = some u := fun j u hj => by
  have e : Addr.add ⟨g, 0, none⟩ j = ⟨g, 0 + j, none⟩ := by
    by_cases hj : j = 0
    · subst hj; simp [Addr.add]
    · simp [Addr.add, hj]
  rw [e]
  simp only [World.cell?, h, Nat.zero_add]
  simpa using hj
theorem infoR : (Try.prog.info? 54).map (fun i => (i.zero, i.size, i.bytes)) = some (some (.slice none 0 0), 1, 24) := by kernel_rfl
theorem infoB : (Try.prog.info? 4).map (fun i => (i.zero, i.size, i.bytes)) = some (some (.bool false), 1, 1) := by kernel_rfl
/-- An automaton of no steps, being made: what its box says, and its rows. -/
structure PC (w x : World) (bn ba nu : Value) (vs : List Value) (au : Value) (na : Nat) : Prop where
  below : Below w.heap.size w x
  box : x.heap[w.heap.size]? = some (.cells #[.slice none 0 0, bn, ba] 68)
  rn : x.ownsRow w.heap.size 54 1 nu vs.length vs
  ra : x.ownsRow w.heap.size 4 1 au na (List.replicate na (.bool true))
  em : ∀ v ∈ vs, ∃ p c, v = .slice p 0 c
theorem PC.step {w x z : World} {bn ba nu au : Value} {vs : List Value} {na : Nat} (h : PC w x bn ba nu vs au na) (hB : Below x.heap.size x z) : PC w z bn ba nu vs au na :=
  ⟨h.below.trans (hB.mono h.below.size), box_below h.box hB, owns_keep h.rn hB, owns_keep h.ra hB, h.em⟩
theorem PC.next {w x z : World} {bn ba nu au v' : Value} {vs : List Value} {na : Nat} {p : Option Addr} {c : Nat} (h : PC w x bn ba nu vs au na) (ho : z.ownsRow w.heap.size 54 1 v' (vs.length + 1) (vs ++ [.slice p 0 c])) (hg : x.grownBy z nu.ownBlock) : PC w z bn ba v' (vs ++ [.slice p 0 c]) au na :=
  ⟨h.below.grown hg h.below.size (fun j hj => (h.rn.lt j hj).1), box_grown h.box h.rn (by decide) hg, by rw [List.length_append]; exact ho, row_grown h.ra h.rn (by decide) hg, fun v hv => by
    rcases List.mem_append.1 hv with hv | hv
    · exact h.em v hv
    · rw [List.mem_singleton.1 hv]; exact ⟨p, c, rfl⟩⟩
theorem PC.acc {w x z : World} {bn ba nu au v' : Value} {vs : List Value} {na : Nat} (h : PC w x bn ba nu vs au na) (ho : z.ownsRow w.heap.size 4 1 v' (na + 1) (List.replicate na (.bool true) ++ [.bool true])) (hg : x.grownBy z au.ownBlock) : PC w z bn ba nu vs v' (na + 1) :=
  ⟨h.below.grown hg h.below.size (fun j hj => (h.ra.lt j hj).1), box_grown h.box h.ra (by decide) hg, row_grown h.rn h.ra (by decide) hg, by rw [List.replicate_succ']; exact ho, h.em⟩
theorem PC.set {w x : World} {bn ba nu au : Value} {vs : List Value} {na : Nat} (h : PC w x bn ba nu vs au na) : PC w ((x.setCell ⟨w.heap.size, 1, none⟩ nu).setCell ⟨w.heap.size, 2, none⟩ au) nu au nu vs au na :=
  ⟨(h.below.setCell (Nat.le_refl _) _).setCell (Nat.le_refl _) _, by simpa using set_heap (set_heap h.box 1 nu) 2 au, own_set (own_set h.rn h.box (by decide) 1 nu) (set_heap h.box 1 nu) (by decide) 2 au, own_set (own_set h.ra h.box (by decide) 1 nu) (set_heap h.box 1 nu) (by decide) 2 au, h.em⟩
theorem want_eq {n k m h : Nat} (hn : k * m = n) (hm : 1 ≤ m) : (0 < k ∧ (1000000 ≤ h ∨ 1000000 / (h + 1) < n)) ↔ (0 < n ∧ 1000000 / n ≤ h) := by
  constructor
  · rintro ⟨hk, hh⟩
    have h0 : 0 < n := by rw [← hn]; exact Nat.mul_pos hk hm
    refine ⟨h0, Nat.le_of_lt_succ ((Nat.div_lt_iff_lt_mul h0).2 ?_)⟩
    rcases hh with hh | hh
    · calc 1000000 < h.succ := by omega
        _ = h.succ * 1 := by omega
        _ ≤ h.succ * n := Nat.mul_le_mul_left _ h0
    · have := (Nat.div_lt_iff_lt_mul (Nat.succ_pos h)).1 hh
      rw [Nat.mul_comm]
      exact this
  · rintro ⟨h0, hh⟩
    have hk : 0 < k := by
      rcases Nat.eq_zero_or_pos k with e | e
      · rw [e, Nat.zero_mul] at hn; omega
      · exact e
    refine ⟨hk, .inr ((Nat.div_lt_iff_lt_mul (Nat.succ_pos h)).2 ?_)⟩
    have := (Nat.div_lt_iff_lt_mul h0).1 (Nat.lt_succ_of_le hh)
    rw [Nat.mul_comm]
    exact this
set_option maxHeartbeats 3200000 in
set_option maxRecDepth 100000 in
theorem law_c (x y : Nat) (hx : x ≤ 255) (hy : y ≤ 65535) (h : Int) (hh : h ≤ 9223372036854775807) (w : World) (hL : ∀ w, Calls Try.prog 29 #[] w fun e w' => e = .returned (.bool true) ∧ GoX.Calm w w') :
    Calls Try.prog 5 #[.int .u8 x, .int .u16 y, .int .i64 h] w fun e w' => e = .returned (.bool true) ∧ GoX.Calm w w' := by
  have hk1 : (x : Int).tmod 20 = ((x % 20 : Nat) : Int) := by rw [Int.tmod_eq_emod_of_nonneg (by omega)]; omega
  have hm1 : (y : Int).tmod 1000 = ((y % 1000 : Nat) : Int) := by rw [Int.tmod_eq_emod_of_nonneg (by omega)]; omega
  obtain ⟨k, hkx⟩ : ∃ k, k = x % 20 := ⟨_, rfl⟩
  obtain ⟨m0, hmy⟩ : ∃ m, m = y % 1000 := ⟨_, rfl⟩
  have hk : k < 20 := by rw [hkx]; exact Nat.mod_lt _ (by decide)
  have hm : m0 < 1000 := by rw [hmy]; exact Nat.mod_lt _ (by decide)
  rw [← hkx] at hk1
  rw [← hmy] at hm1
  clear hkx hmy
  obtain ⟨m, hmm⟩ : ∃ m, m = 1 + m0 := ⟨_, rfl⟩
  have hmi : 1 + (m0 : Int) = (m : Int) := by omega
  have hml : 1 ≤ m := by omega
  have hmh : m ≤ 1000 := by omega
  clear hmm hm
  obtain ⟨ir, hir, hr0, hr1, hr2⟩ := info_parts infoR
  obtain ⟨ib, hib, hb0, hb1, hb2⟩ := info_parts infoB
  have hP0 : Hid (PC w (w.alloc (.cells #[.slice none 0 0, .slice none 0 0, .slice none 0 0] 68)) (.slice none 0 0) (.slice none 0 0) (.slice none 0 0) [] (.slice none 0 0) 0) :=
    ⟨(Below.refl _ _).alloc (Nat.le_refl _) _, pnew _ _, World.ownsRow_nil .., World.ownsRow_nil .., fun v hv => by cases hv⟩
  go_enter Try.func5, Try.ntmps5
  go_wp2
  go_loopw [10] (fun i z => ∃ (j : Nat) (nu au : Value) (vs : List Value), j ≤ m ∧ i = .int .i64 j ∧ Hid (vs.length = j) ∧ Hid (PC w z nu au nu vs au j)) (fun i _ => m - (intOf i).toNat)
  case atStart => exact ⟨0, .slice none 0 0, .slice none 0 0, [], Nat.zero_le _, rfl, rfl, hP0⟩
  case round =>
    obtain ⟨j, nu, au, vs, hj, rfl, hvl, hP⟩ := hrel
    by_cases hlt : j < m
    · have hji : (j : Int) < (m : Int) := by omega
      obtain ⟨⟨g0, g1, g2⟩, -⟩ := pbox3 hP.out.box
      go_wp2_with fail
      refine wp_region_parts (S := (fun z => z.cell? ⟨w.heap.size, 1, none⟩ = some nu ∧ z.cell? ⟨w.heap.size, 2, none⟩ = some au)) #[false, false, false, false, false, false, false, false, false, false, true, true, true] #[true, true, true, true, true, true, true, true, true, true, false, false, false] [10, 11, 12] 40 10 (by kernel_rfl) (by kernel_rfl) (by kernel_rfl) (by rfl) ?_ (fun hHeld => ?_)
      · go_keep
      first
        | (refine wpAnyH_take (i := 0) (v := ?_) at0 (by kernel_rfl) (by kernel_rfl) (by kernel_rfl) (fun _ _ _ h => h) (Or.inl ⟨by rfl, ?_⟩) (by assumption) ?_
           rotate_left
           · intro w hSw; (try dsimp only at hSw); go_simp; try with_reducible rfl)
        | fail "take 0"
      try simp only [Act.put, List.setIfInBounds_toArray, List.set_cons_zero, List.set_cons_succ]
      first
        | (refine wpAnyH_take (i := 1) (v := ?_) at1 (by kernel_rfl) (by kernel_rfl) (by kernel_rfl) (fun _ _ _ h => h) (Or.inl ⟨by rfl, ?_⟩) (by assumption) ?_
           rotate_left
           · intro w hSw; (try dsimp only at hSw); go_simp; try with_reducible rfl)
        | fail "take 1"
      try simp only [Act.put, List.setIfInBounds_toArray, List.set_cons_zero, List.set_cons_succ]
      first
        | (refine wpAnyH_take (i := 5) (v := ?_) at5 (by kernel_rfl) (by kernel_rfl) (by kernel_rfl) (fun _ _ _ h => h) (Or.inl ⟨by rfl, ?_⟩) (by assumption) ?_
           rotate_left
           · intro w hSw; (try dsimp only at hSw); go_simp; try with_reducible rfl)
        | fail "take 5"
      try simp only [Act.put, List.setIfInBounds_toArray, List.set_cons_zero, List.set_cons_succ]
      first
        | (refine wpAnyH_take (i := 6) (v := ?_) at6 (by kernel_rfl) (by kernel_rfl) (by kernel_rfl) (fun _ _ _ h => h) (Or.inl ⟨by rfl, ?_⟩) (by assumption) ?_
           rotate_left
           · intro w hSw; (try dsimp only at hSw); go_simp; try with_reducible rfl)
        | fail "take 6"
      try simp only [Act.put, List.setIfInBounds_toArray, List.set_cons_zero, List.set_cons_succ]
      refine wpAnyH_ready (rs := [2, 7]) (by kernel_rfl) (by simp) ?_
      refine AllReadyH.cons (i := 2) at2 (fun K hK => ?_) ?_
      · go_simp
        generalize hz : (wr.alloc (.cells #[] 3)).drew = y1
        have hBn : Below wr.heap.size wr y1 := by
          rw [← hz]
          first | exact ((Below.refl _ _).alloc (Nat.le_refl _) _).drew | exact (Below.refl _ _).alloc (Nat.le_refl _) _
        replace hP := hidden (hP.out.step hBn)
        obtain ⟨⟨-, s1, s2⟩, -⟩ := pbox3 hP.out.box
        have hSn := And.intro s1 s2
        clear s1 s2
        clear hz hBn
        refine hK.out _ _ ?_ (fun hNew => ?_)
        · exact hSn
        clear hK K hHeld
        have hHeld := hNew
        clear hNew
        try simp only [Act.put, List.setIfInBounds_toArray, List.set_cons_zero, List.set_cons_succ]
        refine wpAnyH_ready (rs := [3, 7]) (by kernel_rfl) (by simp) ?_
        refine AllReadyH.cons (i := 3) at3 (fun K hK => ?_) ?_
        · go_simp
          generalize hz : y1.alloc (.cells #[(.slice (some ⟨wr.heap.size, 0, none⟩) 0 0)] 54) = y2
          have hBn : Below y1.heap.size y1 y2 := by
            rw [← hz]
            first | exact ((Below.refl _ _).alloc (Nat.le_refl _) _).drew | exact (Below.refl _ _).alloc (Nat.le_refl _) _
          have hN30 : Hid (y2.heap[y1.heap.size]? = some (.cells #[(.slice (some ⟨wr.heap.size, 0, none⟩) 0 0)] 54)) := hidden (by rw [← hz]; exact pnew y1 (.cells #[(.slice (some ⟨wr.heap.size, 0, none⟩) 0 0)] 54))
          replace hP := hidden (hP.out.step hBn)
          obtain ⟨⟨-, s1, s2⟩, -⟩ := pbox3 hP.out.box
          have hSn := And.intro s1 s2
          clear s1 s2
          clear hz hBn
          refine hK.out _ _ ?_ (fun hNew => ?_)
          · exact hSn
          clear hK K hHeld
          have hHeld := hNew
          clear hNew
          try simp only [Act.put, List.setIfInBounds_toArray, List.set_cons_zero, List.set_cons_succ]
          refine wpAnyH_ready (rs := [4, 7]) (by kernel_rfl) (by simp) ?_
          refine AllReadyH.cons (i := 4) at4 (fun K hK => ?_) ?_
          · refine step_append_own rfl (.tmp 28) (.tmp 30) 65 rfl w.heap.size 54 ir _ 1 24 Try.underlying65 hir hr0 hr1 hr2 rfl (by decide) nu vs.length vs (by simp [Act.eval]) hP.out.rn ⟨y1.heap.size, 0, none⟩ 1 1 [(.slice (some ⟨wr.heap.size, 0, none⟩) 0 0)] (by simp [Act.eval]) rfl (cells_at hN30.out) (by simp [Value.oneCell']) (by have := hvl.out; unfold maxLen; omega) (by have := hvl.out; omega) hP.out.below.size ?_
            intro v1 y3 hown1 hgrow1
            replace hP := hidden (hP.out.next hown1 hgrow1)
            obtain ⟨⟨-, s1, s2⟩, -⟩ := pbox3 hP.out.box
            have hSn := And.intro s1 s2
            clear s1 s2
            clear hown1 hgrow1 hN30
            refine hK.out _ _ ?_ (fun hNew => ?_)
            · exact hSn
            clear hK K hHeld
            have hHeld := hNew
            clear hNew
            try simp only [Act.put, List.setIfInBounds_toArray, List.set_cons_zero, List.set_cons_succ]
            first
              | (refine wpAnyH_take (i := 9) (v := ?_) at9 (by kernel_rfl) (by kernel_rfl) (by kernel_rfl) (fun _ _ _ h => h) (Or.inl ⟨by rfl, ?_⟩) (by assumption) ?_
                 rotate_left
                 · intro w hSw; (try dsimp only at hSw); go_simp; try with_reducible rfl)
              | fail "take 9"
            try simp only [Act.put, List.setIfInBounds_toArray, List.set_cons_zero, List.set_cons_succ]
            refine wpAnyH_ready (rs := [7]) (by kernel_rfl) (by simp) ?_
            refine AllReadyH.cons (i := 7) at7 (fun K hK => ?_) ?_
            · go_simp
              generalize hz : y3.alloc (.cells #[.bool true] 4) = y4
              have hBn : Below y3.heap.size y3 y4 := by
                rw [← hz]
                first | exact ((Below.refl _ _).alloc (Nat.le_refl _) _).drew | exact (Below.refl _ _).alloc (Nat.le_refl _) _
              have hN34 : Hid (y4.heap[y3.heap.size]? = some (.cells #[.bool true] 4)) := hidden (by rw [← hz]; exact pnew y3 (.cells #[.bool true] 4))
              replace hP := hidden (hP.out.step hBn)
              obtain ⟨⟨-, s1, s2⟩, -⟩ := pbox3 hP.out.box
              have hSn := And.intro s1 s2
              clear s1 s2
              clear hz hBn
              refine hK.out _ _ ?_ (fun hNew => ?_)
              · exact hSn
              clear hK K hHeld
              have hHeld := hNew
              clear hNew
              try simp only [Act.put, List.setIfInBounds_toArray, List.set_cons_zero, List.set_cons_succ]
              refine wpAnyH_ready (rs := [8]) (by kernel_rfl) (by simp) ?_
              refine AllReadyH.cons (i := 8) at8 (fun K hK => ?_) ?_
              · refine step_append_own rfl (.tmp 33) (.tmp 34) 66 rfl w.heap.size 4 ib _ 1 1 Try.underlying66 hib hb0 hb1 hb2 rfl (by decide) au j (List.replicate j (.bool true)) (by simp [Act.eval]) hP.out.ra ⟨y3.heap.size, 0, none⟩ 1 1 [.bool true] (by simp [Act.eval]) rfl (cells_at hN34.out) (by simp [Value.oneCell']) (by unfold maxLen; omega) (by omega) hP.out.below.size ?_
                intro v2 y5 hown2 hgrow2
                replace hP := hidden (hP.out.acc hown2 hgrow2)
                obtain ⟨⟨-, s1, s2⟩, -⟩ := pbox3 hP.out.box
                have hSn := And.intro s1 s2
                clear s1 s2
                clear hown2 hgrow2 hN34
                refine hK.out _ _ ?_ (fun hNew => ?_)
                · exact hSn
                clear hK K hHeld
                have hHeld := hNew
                clear hNew
                try simp only [Act.put, List.setIfInBounds_toArray, List.set_cons_zero, List.set_cons_succ]
                refine tail_list (is := [10, 11, 12]) (l := _) (by kernel_rfl) (by kernel_rfl) (by kernel_rfl) rfl ?_
                simp only [List.filterMap_cons, List.filterMap_nil, at10, at11, at12]
                show wpList _ _ _ (_ :: _) _ _
                obtain ⟨a1, c1, rfl⟩ : ∃ a c, v1 = .slice a (vs.length + 1) c := by
                  have := own_shape hP.out.rn
                  rw [List.length_append] at this
                  exact this
                obtain ⟨a2, c2, rfl⟩ := own_shape hP.out.ra
                obtain ⟨⟨x0, x1, x2⟩, hfz⟩ := pbox3 hP.out.box
                have z1 := hfz 1
                have z2 := hfz 2
                clear hfz
                go_wp2
                go_roundw
                case rel => exact ⟨j + 1, _, _, vs ++ [_], by omega, by go_num, hidden (by have := hvl.out; simp; omega), hidden hP.out.set⟩
                case measure => simp [intOf]; omega
              exact AllReadyH.nil
            exact AllReadyH.nil
          refine AllReadyH.cons (i := 7) at7 (fun K hK => ?_) ?_
          · go_simp
            generalize hz : y2.alloc (.cells #[.bool true] 4) = y3
            have hBn : Below y2.heap.size y2 y3 := by
              rw [← hz]
              first | exact ((Below.refl _ _).alloc (Nat.le_refl _) _).drew | exact (Below.refl _ _).alloc (Nat.le_refl _) _
            have hN34 : Hid (y3.heap[y2.heap.size]? = some (.cells #[.bool true] 4)) := hidden (by rw [← hz]; exact pnew y2 (.cells #[.bool true] 4))
            replace hN30 := hidden (box_below hN30.out hBn)
            replace hP := hidden (hP.out.step hBn)
            obtain ⟨⟨-, s1, s2⟩, -⟩ := pbox3 hP.out.box
            have hSn := And.intro s1 s2
            clear s1 s2
            clear hz hBn
            refine hK.out _ _ ?_ (fun hNew => ?_)
            · exact hSn
            clear hK K hHeld
            have hHeld := hNew
            clear hNew
            try simp only [Act.put, List.setIfInBounds_toArray, List.set_cons_zero, List.set_cons_succ]
            refine wpAnyH_ready (rs := [4]) (by kernel_rfl) (by simp) ?_
            refine AllReadyH.cons (i := 4) at4 (fun K hK => ?_) ?_
            · refine step_append_own rfl (.tmp 28) (.tmp 30) 65 rfl w.heap.size 54 ir _ 1 24 Try.underlying65 hir hr0 hr1 hr2 rfl (by decide) nu vs.length vs (by simp [Act.eval]) hP.out.rn ⟨y1.heap.size, 0, none⟩ 1 1 [(.slice (some ⟨wr.heap.size, 0, none⟩) 0 0)] (by simp [Act.eval]) rfl (cells_at hN30.out) (by simp [Value.oneCell']) (by have := hvl.out; unfold maxLen; omega) (by have := hvl.out; omega) hP.out.below.size ?_
              intro v1 y4 hown1 hgrow1
              replace hN34 := hidden (box_grown hN34.out hP.out.rn (by decide) hgrow1)
              replace hP := hidden (hP.out.next hown1 hgrow1)
              obtain ⟨⟨-, s1, s2⟩, -⟩ := pbox3 hP.out.box
              have hSn := And.intro s1 s2
              clear s1 s2
              clear hown1 hgrow1 hN30
              refine hK.out _ _ ?_ (fun hNew => ?_)
              · exact hSn
              clear hK K hHeld
              have hHeld := hNew
              clear hNew
              try simp only [Act.put, List.setIfInBounds_toArray, List.set_cons_zero, List.set_cons_succ]
              first
                | (refine wpAnyH_take (i := 9) (v := ?_) at9 (by kernel_rfl) (by kernel_rfl) (by kernel_rfl) (fun _ _ _ h => h) (Or.inl ⟨by rfl, ?_⟩) (by assumption) ?_
                   rotate_left
                   · intro w hSw; (try dsimp only at hSw); go_simp; try with_reducible rfl)
                | fail "take 9"
              try simp only [Act.put, List.setIfInBounds_toArray, List.set_cons_zero, List.set_cons_succ]
              refine wpAnyH_ready (rs := [8]) (by kernel_rfl) (by simp) ?_
              refine AllReadyH.cons (i := 8) at8 (fun K hK => ?_) ?_
              · refine step_append_own rfl (.tmp 33) (.tmp 34) 66 rfl w.heap.size 4 ib _ 1 1 Try.underlying66 hib hb0 hb1 hb2 rfl (by decide) au j (List.replicate j (.bool true)) (by simp [Act.eval]) hP.out.ra ⟨y2.heap.size, 0, none⟩ 1 1 [.bool true] (by simp [Act.eval]) rfl (cells_at hN34.out) (by simp [Value.oneCell']) (by unfold maxLen; omega) (by omega) hP.out.below.size ?_
                intro v2 y5 hown2 hgrow2
                replace hP := hidden (hP.out.acc hown2 hgrow2)
                obtain ⟨⟨-, s1, s2⟩, -⟩ := pbox3 hP.out.box
                have hSn := And.intro s1 s2
                clear s1 s2
                clear hown2 hgrow2 hN34
                refine hK.out _ _ ?_ (fun hNew => ?_)
                · exact hSn
                clear hK K hHeld
                have hHeld := hNew
                clear hNew
                try simp only [Act.put, List.setIfInBounds_toArray, List.set_cons_zero, List.set_cons_succ]
                refine tail_list (is := [10, 11, 12]) (l := _) (by kernel_rfl) (by kernel_rfl) (by kernel_rfl) rfl ?_
                simp only [List.filterMap_cons, List.filterMap_nil, at10, at11, at12]
                show wpList _ _ _ (_ :: _) _ _
                obtain ⟨a1, c1, rfl⟩ : ∃ a c, v1 = .slice a (vs.length + 1) c := by
                  have := own_shape hP.out.rn
                  rw [List.length_append] at this
                  exact this
                obtain ⟨a2, c2, rfl⟩ := own_shape hP.out.ra
                obtain ⟨⟨x0, x1, x2⟩, hfz⟩ := pbox3 hP.out.box
                have z1 := hfz 1
                have z2 := hfz 2
                clear hfz
                go_wp2
                go_roundw
                case rel => exact ⟨j + 1, _, _, vs ++ [_], by omega, by go_num, hidden (by have := hvl.out; simp; omega), hidden hP.out.set⟩
                case measure => simp [intOf]; omega
              exact AllReadyH.nil
            exact AllReadyH.nil
          exact AllReadyH.nil
        refine AllReadyH.cons (i := 7) at7 (fun K hK => ?_) ?_
        · go_simp
          generalize hz : y1.alloc (.cells #[.bool true] 4) = y2
          have hBn : Below y1.heap.size y1 y2 := by
            rw [← hz]
            first | exact ((Below.refl _ _).alloc (Nat.le_refl _) _).drew | exact (Below.refl _ _).alloc (Nat.le_refl _) _
          have hN34 : Hid (y2.heap[y1.heap.size]? = some (.cells #[.bool true] 4)) := hidden (by rw [← hz]; exact pnew y1 (.cells #[.bool true] 4))
          replace hP := hidden (hP.out.step hBn)
          obtain ⟨⟨-, s1, s2⟩, -⟩ := pbox3 hP.out.box
          have hSn := And.intro s1 s2
          clear s1 s2
          clear hz hBn
          refine hK.out _ _ ?_ (fun hNew => ?_)
          · exact hSn
          clear hK K hHeld
          have hHeld := hNew
          clear hNew
          try simp only [Act.put, List.setIfInBounds_toArray, List.set_cons_zero, List.set_cons_succ]
          refine wpAnyH_ready (rs := [3]) (by kernel_rfl) (by simp) ?_
          refine AllReadyH.cons (i := 3) at3 (fun K hK => ?_) ?_
          · go_simp
            generalize hz : y2.alloc (.cells #[(.slice (some ⟨wr.heap.size, 0, none⟩) 0 0)] 54) = y3
            have hBn : Below y2.heap.size y2 y3 := by
              rw [← hz]
              first | exact ((Below.refl _ _).alloc (Nat.le_refl _) _).drew | exact (Below.refl _ _).alloc (Nat.le_refl _) _
            have hN30 : Hid (y3.heap[y2.heap.size]? = some (.cells #[(.slice (some ⟨wr.heap.size, 0, none⟩) 0 0)] 54)) := hidden (by rw [← hz]; exact pnew y2 (.cells #[(.slice (some ⟨wr.heap.size, 0, none⟩) 0 0)] 54))
            replace hN34 := hidden (box_below hN34.out hBn)
            replace hP := hidden (hP.out.step hBn)
            obtain ⟨⟨-, s1, s2⟩, -⟩ := pbox3 hP.out.box
            have hSn := And.intro s1 s2
            clear s1 s2
            clear hz hBn
            refine hK.out _ _ ?_ (fun hNew => ?_)
            · exact hSn
            clear hK K hHeld
            have hHeld := hNew
            clear hNew
            try simp only [Act.put, List.setIfInBounds_toArray, List.set_cons_zero, List.set_cons_succ]
            refine wpAnyH_ready (rs := [4]) (by kernel_rfl) (by simp) ?_
            refine AllReadyH.cons (i := 4) at4 (fun K hK => ?_) ?_
            · refine step_append_own rfl (.tmp 28) (.tmp 30) 65 rfl w.heap.size 54 ir _ 1 24 Try.underlying65 hir hr0 hr1 hr2 rfl (by decide) nu vs.length vs (by simp [Act.eval]) hP.out.rn ⟨y2.heap.size, 0, none⟩ 1 1 [(.slice (some ⟨wr.heap.size, 0, none⟩) 0 0)] (by simp [Act.eval]) rfl (cells_at hN30.out) (by simp [Value.oneCell']) (by have := hvl.out; unfold maxLen; omega) (by have := hvl.out; omega) hP.out.below.size ?_
              intro v1 y4 hown1 hgrow1
              replace hN34 := hidden (box_grown hN34.out hP.out.rn (by decide) hgrow1)
              replace hP := hidden (hP.out.next hown1 hgrow1)
              obtain ⟨⟨-, s1, s2⟩, -⟩ := pbox3 hP.out.box
              have hSn := And.intro s1 s2
              clear s1 s2
              clear hown1 hgrow1 hN30
              refine hK.out _ _ ?_ (fun hNew => ?_)
              · exact hSn
              clear hK K hHeld
              have hHeld := hNew
              clear hNew
              try simp only [Act.put, List.setIfInBounds_toArray, List.set_cons_zero, List.set_cons_succ]
              first
                | (refine wpAnyH_take (i := 9) (v := ?_) at9 (by kernel_rfl) (by kernel_rfl) (by kernel_rfl) (fun _ _ _ h => h) (Or.inl ⟨by rfl, ?_⟩) (by assumption) ?_
                   rotate_left
                   · intro w hSw; (try dsimp only at hSw); go_simp; try with_reducible rfl)
                | fail "take 9"
              try simp only [Act.put, List.setIfInBounds_toArray, List.set_cons_zero, List.set_cons_succ]
              refine wpAnyH_ready (rs := [8]) (by kernel_rfl) (by simp) ?_
              refine AllReadyH.cons (i := 8) at8 (fun K hK => ?_) ?_
              · refine step_append_own rfl (.tmp 33) (.tmp 34) 66 rfl w.heap.size 4 ib _ 1 1 Try.underlying66 hib hb0 hb1 hb2 rfl (by decide) au j (List.replicate j (.bool true)) (by simp [Act.eval]) hP.out.ra ⟨y1.heap.size, 0, none⟩ 1 1 [.bool true] (by simp [Act.eval]) rfl (cells_at hN34.out) (by simp [Value.oneCell']) (by unfold maxLen; omega) (by omega) hP.out.below.size ?_
                intro v2 y5 hown2 hgrow2
                replace hP := hidden (hP.out.acc hown2 hgrow2)
                obtain ⟨⟨-, s1, s2⟩, -⟩ := pbox3 hP.out.box
                have hSn := And.intro s1 s2
                clear s1 s2
                clear hown2 hgrow2 hN34
                refine hK.out _ _ ?_ (fun hNew => ?_)
                · exact hSn
                clear hK K hHeld
                have hHeld := hNew
                clear hNew
                try simp only [Act.put, List.setIfInBounds_toArray, List.set_cons_zero, List.set_cons_succ]
                refine tail_list (is := [10, 11, 12]) (l := _) (by kernel_rfl) (by kernel_rfl) (by kernel_rfl) rfl ?_
                simp only [List.filterMap_cons, List.filterMap_nil, at10, at11, at12]
                show wpList _ _ _ (_ :: _) _ _
                obtain ⟨a1, c1, rfl⟩ : ∃ a c, v1 = .slice a (vs.length + 1) c := by
                  have := own_shape hP.out.rn
                  rw [List.length_append] at this
                  exact this
                obtain ⟨a2, c2, rfl⟩ := own_shape hP.out.ra
                obtain ⟨⟨x0, x1, x2⟩, hfz⟩ := pbox3 hP.out.box
                have z1 := hfz 1
                have z2 := hfz 2
                clear hfz
                go_wp2
                go_roundw
                case rel => exact ⟨j + 1, _, _, vs ++ [_], by omega, by go_num, hidden (by have := hvl.out; simp; omega), hidden hP.out.set⟩
                case measure => simp [intOf]; omega
              exact AllReadyH.nil
            exact AllReadyH.nil
          exact AllReadyH.nil
        exact AllReadyH.nil
      refine AllReadyH.cons (i := 7) at7 (fun K hK => ?_) ?_
      · go_simp
        generalize hz : (wr.alloc (.cells #[.bool true] 4)).drew = y1
        have hBn : Below wr.heap.size wr y1 := by
          rw [← hz]
          first | exact ((Below.refl _ _).alloc (Nat.le_refl _) _).drew | exact (Below.refl _ _).alloc (Nat.le_refl _) _
        have hN34 : Hid (y1.heap[wr.heap.size]? = some (.cells #[.bool true] 4)) := hidden (by rw [← hz]; exact pnew wr (.cells #[.bool true] 4))
        replace hP := hidden (hP.out.step hBn)
        obtain ⟨⟨-, s1, s2⟩, -⟩ := pbox3 hP.out.box
        have hSn := And.intro s1 s2
        clear s1 s2
        clear hz hBn
        refine hK.out _ _ ?_ (fun hNew => ?_)
        · exact hSn
        clear hK K hHeld
        have hHeld := hNew
        clear hNew
        try simp only [Act.put, List.setIfInBounds_toArray, List.set_cons_zero, List.set_cons_succ]
        refine wpAnyH_ready (rs := [2]) (by kernel_rfl) (by simp) ?_
        refine AllReadyH.cons (i := 2) at2 (fun K hK => ?_) ?_
        · go_simp
          generalize hz : y1.alloc (.cells #[] 3) = y2
          have hBn : Below y1.heap.size y1 y2 := by
            rw [← hz]
            first | exact ((Below.refl _ _).alloc (Nat.le_refl _) _).drew | exact (Below.refl _ _).alloc (Nat.le_refl _) _
          replace hN34 := hidden (box_below hN34.out hBn)
          replace hP := hidden (hP.out.step hBn)
          obtain ⟨⟨-, s1, s2⟩, -⟩ := pbox3 hP.out.box
          have hSn := And.intro s1 s2
          clear s1 s2
          clear hz hBn
          refine hK.out _ _ ?_ (fun hNew => ?_)
          · exact hSn
          clear hK K hHeld
          have hHeld := hNew
          clear hNew
          try simp only [Act.put, List.setIfInBounds_toArray, List.set_cons_zero, List.set_cons_succ]
          refine wpAnyH_ready (rs := [3]) (by kernel_rfl) (by simp) ?_
          refine AllReadyH.cons (i := 3) at3 (fun K hK => ?_) ?_
          · go_simp
            generalize hz : y2.alloc (.cells #[(.slice (some ⟨y1.heap.size, 0, none⟩) 0 0)] 54) = y3
            have hBn : Below y2.heap.size y2 y3 := by
              rw [← hz]
              first | exact ((Below.refl _ _).alloc (Nat.le_refl _) _).drew | exact (Below.refl _ _).alloc (Nat.le_refl _) _
            have hN30 : Hid (y3.heap[y2.heap.size]? = some (.cells #[(.slice (some ⟨y1.heap.size, 0, none⟩) 0 0)] 54)) := hidden (by rw [← hz]; exact pnew y2 (.cells #[(.slice (some ⟨y1.heap.size, 0, none⟩) 0 0)] 54))
            replace hN34 := hidden (box_below hN34.out hBn)
            replace hP := hidden (hP.out.step hBn)
            obtain ⟨⟨-, s1, s2⟩, -⟩ := pbox3 hP.out.box
            have hSn := And.intro s1 s2
            clear s1 s2
            clear hz hBn
            refine hK.out _ _ ?_ (fun hNew => ?_)
            · exact hSn
            clear hK K hHeld
            have hHeld := hNew
            clear hNew
            try simp only [Act.put, List.setIfInBounds_toArray, List.set_cons_zero, List.set_cons_succ]
            refine wpAnyH_ready (rs := [4]) (by kernel_rfl) (by simp) ?_
            refine AllReadyH.cons (i := 4) at4 (fun K hK => ?_) ?_
            · refine step_append_own rfl (.tmp 28) (.tmp 30) 65 rfl w.heap.size 54 ir _ 1 24 Try.underlying65 hir hr0 hr1 hr2 rfl (by decide) nu vs.length vs (by simp [Act.eval]) hP.out.rn ⟨y2.heap.size, 0, none⟩ 1 1 [(.slice (some ⟨y1.heap.size, 0, none⟩) 0 0)] (by simp [Act.eval]) rfl (cells_at hN30.out) (by simp [Value.oneCell']) (by have := hvl.out; unfold maxLen; omega) (by have := hvl.out; omega) hP.out.below.size ?_
              intro v1 y4 hown1 hgrow1
              replace hN34 := hidden (box_grown hN34.out hP.out.rn (by decide) hgrow1)
              replace hP := hidden (hP.out.next hown1 hgrow1)
              obtain ⟨⟨-, s1, s2⟩, -⟩ := pbox3 hP.out.box
              have hSn := And.intro s1 s2
              clear s1 s2
              clear hown1 hgrow1 hN30
              refine hK.out _ _ ?_ (fun hNew => ?_)
              · exact hSn
              clear hK K hHeld
              have hHeld := hNew
              clear hNew
              try simp only [Act.put, List.setIfInBounds_toArray, List.set_cons_zero, List.set_cons_succ]
              first
                | (refine wpAnyH_take (i := 9) (v := ?_) at9 (by kernel_rfl) (by kernel_rfl) (by kernel_rfl) (fun _ _ _ h => h) (Or.inl ⟨by rfl, ?_⟩) (by assumption) ?_
                   rotate_left
                   · intro w hSw; (try dsimp only at hSw); go_simp; try with_reducible rfl)
                | fail "take 9"
              try simp only [Act.put, List.setIfInBounds_toArray, List.set_cons_zero, List.set_cons_succ]
              refine wpAnyH_ready (rs := [8]) (by kernel_rfl) (by simp) ?_
              refine AllReadyH.cons (i := 8) at8 (fun K hK => ?_) ?_
              · refine step_append_own rfl (.tmp 33) (.tmp 34) 66 rfl w.heap.size 4 ib _ 1 1 Try.underlying66 hib hb0 hb1 hb2 rfl (by decide) au j (List.replicate j (.bool true)) (by simp [Act.eval]) hP.out.ra ⟨wr.heap.size, 0, none⟩ 1 1 [.bool true] (by simp [Act.eval]) rfl (cells_at hN34.out) (by simp [Value.oneCell']) (by unfold maxLen; omega) (by omega) hP.out.below.size ?_
                intro v2 y5 hown2 hgrow2
                replace hP := hidden (hP.out.acc hown2 hgrow2)
                obtain ⟨⟨-, s1, s2⟩, -⟩ := pbox3 hP.out.box
                have hSn := And.intro s1 s2
                clear s1 s2
                clear hown2 hgrow2 hN34
                refine hK.out _ _ ?_ (fun hNew => ?_)
                · exact hSn
                clear hK K hHeld
                have hHeld := hNew
                clear hNew
                try simp only [Act.put, List.setIfInBounds_toArray, List.set_cons_zero, List.set_cons_succ]
                refine tail_list (is := [10, 11, 12]) (l := _) (by kernel_rfl) (by kernel_rfl) (by kernel_rfl) rfl ?_
                simp only [List.filterMap_cons, List.filterMap_nil, at10, at11, at12]
                show wpList _ _ _ (_ :: _) _ _
                obtain ⟨a1, c1, rfl⟩ : ∃ a c, v1 = .slice a (vs.length + 1) c := by
                  have := own_shape hP.out.rn
                  rw [List.length_append] at this
                  exact this
                obtain ⟨a2, c2, rfl⟩ := own_shape hP.out.ra
                obtain ⟨⟨x0, x1, x2⟩, hfz⟩ := pbox3 hP.out.box
                have z1 := hfz 1
                have z2 := hfz 2
                clear hfz
                go_wp2
                go_roundw
                case rel => exact ⟨j + 1, _, _, vs ++ [_], by omega, by go_num, hidden (by have := hvl.out; simp; omega), hidden hP.out.set⟩
                case measure => simp [intOf]; omega
              exact AllReadyH.nil
            exact AllReadyH.nil
          exact AllReadyH.nil
        exact AllReadyH.nil
      exact AllReadyH.nil
    · obtain rfl : j = m := by omega
      clear hP0 hlt
      have hnew := hidden (new_says k hk)
      go_wp2_with fail
      refine (hnew.out wr).mono ?_
      rintro e w1 ⟨g, rfl, hC1, h2⟩
      go_wp2_with fail
      refine h2.mono ?_
      rintro e w2 ⟨⟨b, o, rfl, hbl, hcell⟩, hC2⟩
      obtain ⟨a1, c1, rfl⟩ : ∃ a c, nu = .slice a j c := by
        have := own_shape hP.out.rn
        rw [hvl.out] at this
        exact this
      obtain ⟨a2, c2, rfl⟩ := own_shape hP.out.ra
      obtain ⟨a0, c0, hae, hra⟩ := holds_of_owns hP.out.rn
      rw [hvl.out] at hae
      simp only [Value.slice.injEq, true_and] at hae
      obtain ⟨rfl, rfl⟩ := hae
      have hbx := (hC2.block w.heap.size (Array.getElem?_eq_some_iff.1 hP.out.box).1).trans hP.out.box
      obtain ⟨⟨g0, g1, g2⟩, -⟩ := pbox3 hbx
      have hCw : Hid (GoX.Calm w w2) := (GoX.Calm.of_below hP.out.below).trans hC2
      have hchk := check_c k j hk hml hmh a1 a2 c1 c2 vs hvl.out hP.out.em b o h w2 (hra.calm hC2) hbl hcell
      have hle : k * j ≤ 19 * 1000 := Nat.mul_le_mul (by omega) hmh
      have hn : (k : Int) * (j : Int) = ((k * j : Nat) : Int) := by rw [Int.natCast_mul]
      have hwq := fun H => want_eq (h := H) (rfl : k * j = k * j) hml
      generalize k * j = n at *
      clear hP hC1 h2 hC2 hbx hra hcell hnew hvl
      by_cases hneg : h < 0
      · have hw : wantC n h = 1 := by unfold wantC; exact if_pos hneg
        rw [hw] at hchk
        clear hw hwq
        go_wp2_with fail
        refine hchk.mono ?_
        rintro e w3 ⟨rfl, hB3⟩
        go_wp2_with fail
        refine (hL _).mono ?_
        rintro e w4 ⟨rfl, hC4⟩
        go_wp2
        go_ret
        exact ⟨rfl, hCw.out.trans ((GoX.Calm.of_below hB3).trans hC4)⟩
      · obtain ⟨H, hHe⟩ := Int.eq_ofNat_of_zero_le (by omega : 0 ≤ h)
        replace hHe := hidden hHe
        have hwq := hwq H
        have hw : wantC n h = if 0 < n ∧ 1000000 / n ≤ H then 11 else 0 := by
          unfold wantC
          rw [if_neg hneg]
          congr 1
          exact propext ⟨fun h => ⟨h.1, by have := h.2; have := hHe.out; omega⟩, fun h => ⟨h.1, by have := h.2; have := hHe.out; omega⟩⟩
        obtain ⟨H1, hH1e⟩ : ∃ H1, H1 = H + 1 := ⟨_, rfl⟩
        have hHi : h + 1 = (H1 : Int) := by have := hHe.out; omega
        have hH1 : (H1 : Int) ≠ 0 := by omega
        have hq2 : (1000000 : Int).tdiv (H1 : Int) = ((1000000 / H1 : Nat) : Int) := by
          rw [show (1000000 : Int) = ((1000000 : Nat) : Int) from rfl, ← Int.ofNat_tdiv]
        have hql : 1000000 / H1 ≤ 1000000 := Nat.div_le_self _ _
        rw [← hH1e] at hwq
        have hH1l : Hid (H1 = H + 1) := hH1e
        clear hH1e
        generalize 1000000 / H1 = q at *
        by_cases hk0 : 0 < k
        · have hki : (k : Int) > 0 := by omega
          by_cases hge : 1000000 ≤ H
          · have hgi : h ≥ 1000000 := by have := hHe.out; omega
            rw [if_pos (hwq.1 ⟨hk0, .inl hge⟩)] at hw
            rw [hw] at hchk
            clear hw hwq
            go_wp2_with fail
            refine hchk.mono ?_
            rintro e w3 ⟨rfl, hB3⟩
            go_wp2_with fail
            refine (hL _).mono ?_
            rintro e w4 ⟨rfl, hC4⟩
            go_wp2
            go_ret
            exact ⟨rfl, hCw.out.trans ((GoX.Calm.of_below hB3).trans hC4)⟩
          · have hgi : ¬ h ≥ 1000000 := by have := hHe.out; omega
            have hHb : (H1 : Int) ≤ 1000000 := by have := hH1l.out; have := hHe.out; omega
            replace hge := hidden hge
            by_cases hlt : q < n
            · have hli : (n : Int) > (q : Int) := by omega
              rw [if_pos (hwq.1 ⟨hk0, .inr hlt⟩)] at hw
              rw [hw] at hchk
              clear hw hwq
              go_wp2_with fail
              refine hchk.mono ?_
              rintro e w3 ⟨rfl, hB3⟩
              go_wp2_with fail
              refine (hL _).mono ?_
              rintro e w4 ⟨rfl, hC4⟩
              go_wp2
              go_ret
              exact ⟨rfl, hCw.out.trans ((GoX.Calm.of_below hB3).trans hC4)⟩
            · have hli : ¬ (n : Int) > (q : Int) := by omega
              rw [if_neg (fun h => by rcases (hwq.2 h).2 with h2 | h2 <;> first | exact hge.out h2 | omega)] at hw
              rw [hw] at hchk
              clear hw hwq
              go_wp2_with fail
              refine hchk.mono ?_
              rintro e w3 ⟨rfl, hB3⟩
              go_wp2_with fail
              refine (hL _).mono ?_
              rintro e w4 ⟨rfl, hC4⟩
              go_wp2
              go_ret
              exact ⟨rfl, hCw.out.trans ((GoX.Calm.of_below hB3).trans hC4)⟩
        · have hki : ¬ (k : Int) > 0 := by omega
          rw [if_neg (fun h => hk0 (hwq.2 h).1)] at hw
          rw [hw] at hchk
          clear hw hwq
          go_wp2_with fail
          refine hchk.mono ?_
          rintro e w3 ⟨rfl, hB3⟩
          go_wp2_with fail
          refine (hL _).mono ?_
          rintro e w4 ⟨rfl, hC4⟩
          go_wp2
          go_ret
          exact ⟨rfl, hCw.out.trans ((GoX.Calm.of_below hB3).trans hC4)⟩
end Go.Proofs.Ytgojieabeaalcaa
