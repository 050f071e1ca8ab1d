/-
  ROWS OF OPERATIONS WHOSE ORDER IS DRAWN: what their plan says. No program is named here.
-/
import Derived.Test.YtnmjhbnadfjapaaXCode4
namespace GoX
open Go

/-- Who stands ahead in every order. -/
inductive Anc (all : List Oper) : Nat → Nat → Prop
  | one {i : Nat} {o : Oper} {e : Edge} : all[i]? = some o → e ∈ o.after.toList → Region.binds .any e = true → Anc all i e.on
  | more {i : Nat} {o : Oper} {e : Edge} {j : Nat} : all[i]? = some o → e ∈ o.after.toList → Region.binds .any e = true → Anc all e.on j → Anc all i j

structure DI.Sound (all : List Oper) (d : DI) : Prop where
  here : all[d.idx]? = some d.o
  anc : ∀ j, bit d.anc j = true → Anc all d.idx j
  reads : d.reads = readsOf all d.o

theorem bit_lor (a b j : Nat) : bit (Nat.lor a b) j = (bit a j || bit b j) := Nat.testBit_or a b j
theorem bit_pow (i j : Nat) : bit (2 ^ i) j = decide (i = j) := Nat.testBit_two_pow
theorem bit_zero (j : Nat) : bit 0 j = false := Nat.zero_testBit j

theorem orBits_sound (f : Nat → Nat) : ∀ (es : List Edge) (s j : Nat), bit (orBits f es s) j = true → bit s j = true ∨ ∃ e ∈ es, Region.binds .any e = true ∧ (j = e.on ∨ bit (f e.on) j = true)
  | [], s, j, h => .inl h
  | e :: l, s, j, h => by
    unfold orBits at h
    cases hb : Region.binds .any e with
    | false =>
      rw [hb, cond_false] at h
      rcases orBits_sound f l s j h with h | ⟨e', he, h⟩
      · exact .inl h
      · exact .inr ⟨e', by simp [he], h⟩
    | true =>
      rw [hb, cond_true, forceN_eq] at h
      rcases orBits_sound f l _ j h with h | ⟨e', he, h⟩
      · rw [bit_lor, bit_lor, bit_pow] at h
        simp only [Bool.or_eq_true, decide_eq_true_eq] at h
        rcases h with (h | h) | h
        · exact .inl h
        · exact .inr ⟨e, by simp, hb, .inl h.symm⟩
        · exact .inr ⟨e, by simp, hb, .inr h⟩
      · exact .inr ⟨e', by simp [he], h⟩

theorem ancAt_sound {all : List Oper} : ∀ {acc : List DI}, (∀ d ∈ acc, d.Sound all) → ∀ i j, bit (ancAt acc i) j = true → Anc all i j
  | [], _, i, j, h => by rw [show ancAt [] i = 0 from rfl, bit_zero] at h; cases h
  | d :: l, hs, i, j, h => by
    unfold ancAt at h
    cases hb : Nat.beq d.idx i with
    | true =>
      rw [hb, cond_true] at h
      rw [← beq_eq' hb]
      exact (hs d (by simp)).anc j h
    | false =>
      rw [hb, cond_false] at h
      exact ancAt_sound (fun d hd => hs d (by simp [hd])) i j h

theorem infoGo_sound (K : Tab) {all : List Oper} : ∀ (l : List Oper) (i : Nat) (acc : List DI) (k : List DI → CC), all.drop i = l → (∀ d ∈ acc, d.Sound all) →
    ∃ back, infoGo K all l i acc k = k back ∧ ∀ d ∈ back, d.Sound all
  | [], i, acc, k, _, hs => ⟨acc, rfl, hs⟩
  | o :: l, i, acc, k, hd, hs => by
    unfold infoGo
    simp only [forceN_eq]
    have hi : all[i]? = some o := by
      have := congrArg (·[0]?) hd
      simpa using this
    refine infoGo_sound K l (i + 1) _ k (by rw [← List.drop_drop, hd]; rfl) fun d hd' => ?_
    rcases List.mem_cons.1 hd' with rfl | hd'
    · refine ⟨hi, fun j hj => ?_, rfl⟩
      rcases orBits_sound _ _ _ j hj with h | ⟨e, he, hb, h | h⟩
      · rw [bit_zero] at h; cases h
      · subst h; exact .one hi he hb
      · exact .more hi he hb (ancAt_sound hs _ _ h)
    · exact hs d hd'

theorem takeOut_mem {p : DI → Prop} (want out : Nat) : ∀ {l : List DI} {acc : List DI → List DI}, (∀ d ∈ l, p d) → (∀ r, (∀ d ∈ r, p d) → ∀ d ∈ acc r, p d) →
    ∀ r, (∀ d ∈ r, p d) → ∀ d ∈ takeOut want out l acc r, p d
  | [], acc, _, ha => ha
  | x :: l, acc, hl, ha => by
    unfold takeOut
    cases bit want x.idx && !bit out x.idx with
    | true =>
      refine takeOut_mem want out (fun d hd => hl d (by simp [hd])) fun r hr => ha _ fun d hd => ?_
      rcases List.mem_cons.1 hd with rfl | hd
      · exact hl _ (by simp)
      · exact hr d hd
    | false => exact takeOut_mem want out (fun d hd => hl d (by simp [hd])) ha
theorem planGo_mem {p : DI → Prop} {all : List DI} (hall : ∀ d ∈ all, p d) : ∀ {l : List DI} (out : Nat) {acc : List DI → List DI}, (∀ d ∈ l, p d) → (∀ r, (∀ d ∈ r, p d) → ∀ d ∈ acc r, p d) →
    ∀ d ∈ planGo all l out acc, p d
  | [], out, acc, _, ha => takeOut_mem _ out hall ha [] (by simp)
  | x :: l, out, acc, hl, ha => by
    unfold planGo
    cases Nat.beq x.kind 2 && !bit out x.idx with
    | true =>
      refine planGo_mem hall _ (fun d hd => hl d (by simp [hd])) fun r hr => takeOut_mem _ out hall ha _ fun d hd => ?_
      rcases List.mem_cons.1 hd with rfl | hd
      · exact hl _ (by simp)
      · exact hr d hd
    | false => exact planGo_mem hall _ (fun d hd => hl d (by simp [hd])) ha

theorem tiedAll_mem {y : DI} : ∀ {l : List DI}, tiedAll y l = true → ∀ x ∈ l, tied x y = true → bit y.anc x.idx = true
  | [], _, x, hx => by cases hx
  | z :: l, h, x, hx => by
    simp only [tiedAll, Bool.and_eq_true, Bool.or_eq_true, Bool.not_eq_true'] at h
    rcases List.mem_cons.1 hx with rfl | hx
    · intro ht
      rcases h.1 with h | h
      · rw [ht] at h; cases h
      · exact h
    · exact tiedAll_mem h.2 x hx
theorem backAll_mem {i : Nat} : ∀ {l : List Edge}, backAll i l = true → ∀ e ∈ l, Region.binds .any e = true → e.on < i
  | [], _, e, he => by cases he
  | x :: l, h, e, he => by
    simp only [backAll, Bool.and_eq_true, Bool.or_eq_true, Bool.not_eq_true'] at h
    rcases List.mem_cons.1 he with rfl | he
    · intro ht
      rcases h.1 with h | h
      · rw [ht] at h; cases h
      · exact blt_lt h
    · exact backAll_mem h.2 e he

theorem bit_ge {m i : Nat} (h : m ≤ i) : bit (2 ^ m - 1) i = false := by
  unfold bit
  rw [Nat.testBit_two_pow_sub_one]
  simp; omega
theorem bit_lt {m i : Nat} (h : i < m) : bit (2 ^ m - 1) i = true := by
  unfold bit
  rw [Nat.testBit_two_pow_sub_one]
  simp [h]

theorem planOk_spec (m : Nat) : ∀ (l before : List DI) (mask : Nat), planOk m l before mask = true →
    (∀ y ∈ l, y.idx < m ∧ backAll y.idx y.o.after.toList = true ∧ bit mask y.idx = false ∧ ∀ x ∈ before, tied x y = true → bit y.anc x.idx = true) ∧
    l.Pairwise (fun x y => x.idx ≠ y.idx ∧ (tied x y = true → bit y.anc x.idx = true)) ∧ ∀ i, i < m → bit mask i = true ∨ ∃ y ∈ l, y.idx = i
  | [], before, mask, h => by
    refine ⟨by simp, .nil, fun i hi => .inl ?_⟩
    have h1 := beq_eq' (show Nat.beq (mask + 1) (2 ^ m) = true from h)
    have : mask = 2 ^ m - 1 := by omega
    rw [this]; exact bit_lt hi
  | y :: l, before, mask, h => by
    unfold planOk at h
    simp only [Bool.and_eq_true, Bool.not_eq_true'] at h
    obtain ⟨⟨⟨⟨h1, h2⟩, h3⟩, h4⟩, h5⟩ := h
    obtain ⟨g1, g2, g3⟩ := planOk_spec m l (y :: before) _ h5
    refine ⟨fun z hz => ?_, .cons (fun z hz => ?_) g2, fun i hi => ?_⟩
    · rcases List.mem_cons.1 hz with rfl | hz
      · exact ⟨blt_lt h2, h3, h1, tiedAll_mem h4⟩
      · obtain ⟨a, b, c, d⟩ := g1 z hz
        rw [bit_lor] at c
        simp only [Bool.or_eq_false_iff] at c
        exact ⟨a, b, c.1, fun x hx => d x (by simp [hx])⟩
    · obtain ⟨a, b, c, d⟩ := g1 z hz
      rw [bit_lor, bit_pow] at c
      simp only [Bool.or_eq_false_iff, decide_eq_false_iff_not] at c
      exact ⟨c.2, d y (by simp)⟩
    · rcases g3 i hi with h | ⟨z, hz, h⟩
      · rw [bit_lor, bit_pow] at h
        simp only [Bool.or_eq_true, decide_eq_true_eq] at h
        rcases h with h | h
        · exact .inl h
        · exact .inr ⟨y, by simp, h⟩
      · exact .inr ⟨z, by simp [hz], h⟩

/-- A plan, and what it says. -/
structure Plan (all : List Oper) (pl : List DI) : Prop where
  sound : ∀ (p : Nat) (s : DI), pl[p]? = some s → s.Sound all
  lt : ∀ (p : Nat) (s : DI), pl[p]? = some s → s.idx < all.length
  back : ∀ (p : Nat) (s : DI), pl[p]? = some s → ∀ e ∈ s.o.after.toList, Region.binds .any e = true → e.on < s.idx
  once : ∀ (p q : Nat) (s t : DI), pl[p]? = some s → pl[q]? = some t → s.idx = t.idx → p = q
  tie : ∀ (p q : Nat) (s t : DI), p < q → pl[p]? = some s → pl[q]? = some t → tied s t = true → bit t.anc s.idx = true
  all' : ∀ i, i < all.length → ∃ (p : Nat) (s : DI), pl[p]? = some s ∧ s.idx = i

theorem drawC_plan (K : Tab) (n : Nat) (call : FuncId → CF) (ops : List Oper) (T : AT) (H : AH) (k : Ex → AT → AH → Bool) (h : (drawC K n call ops).go T H k = true) :
    ∃ pl, Plan ops pl ∧ (cDraw K n call ops pl).go T H [] k = true := by
  unfold drawC at h
  obtain ⟨back, he, hs⟩ := infoGo_sound K (all := ops) ops 0 [] (drawK K n call ops) (by simp) (by simp)
  rw [he] at h
  unfold drawK at h
  split at h
  · rename_i hok
    have hr : ∀ d ∈ back.reverse, d.Sound ops := fun d hd => hs d (by simpa using hd)
    have hm := planGo_mem (p := fun d => d.Sound ops) hr (l := back.reverse) 0 (acc := id) hr (fun r hr => hr)
    generalize planGo back.reverse back.reverse 0 id = pl at *
    obtain ⟨g1, g2, g3⟩ := planOk_spec _ pl [] 0 hok
    have hmem : ∀ (p : Nat) (s : DI), pl[p]? = some s → s ∈ pl := fun p s hp => List.mem_of_getElem? hp
    have hpair : ∀ (p q : Nat) (s t : DI), p < q → pl[p]? = some s → pl[q]? = some t → s.idx ≠ t.idx ∧ (tied s t = true → bit t.anc s.idx = true) := fun p q s t hpq hp hq => by
      obtain ⟨hp1, hp2⟩ := List.getElem?_eq_some_iff.1 hp
      obtain ⟨hq1, hq2⟩ := List.getElem?_eq_some_iff.1 hq
      have := List.pairwise_iff_getElem.1 g2 p q hp1 hq1 hpq
      rwa [hp2, hq2] at this
    refine ⟨pl, ⟨fun p s hp => hm s (hmem p s hp), fun p s hp => (g1 s (hmem p s hp)).1, fun p s hp => backAll_mem (g1 s (hmem p s hp)).2.1, fun p q s t hp hq he => ?_,
      fun p q s t hpq hp hq => (hpair p q s t hpq hp hq).2, fun i hi => ?_⟩, h⟩
    · rcases Nat.lt_trichotomy p q with hlt | heq | hlt
      · exact absurd he (hpair p q s t hlt hp hq).1
      · exact heq
      · exact absurd he.symm (hpair q p t s hlt hq hp).1
    · rcases g3 i hi with h | ⟨y, hy, h⟩
      · rw [bit_zero] at h; cases h
      · obtain ⟨p, hp⟩ := List.getElem?_of_mem hy
        exact ⟨p, y, hp, h⟩
  · cases h

end GoX
