/-
  ROWS OF OPERATIONS WHOSE ORDER IS DRAWN: one of them. No program is named here.
-/
import Derived.Test.YtnmjhbnadfjapaaXCode7
namespace GoX
open Go

def isL (listed : Array Bool) (i : Nat) : Prop := listed.getD i false = true

theorem anc_listed {all : List Oper} {listed : Array Bool} (hc : ∀ (i : Nat) (o : Oper), all[i]? = some o → isL listed i → ∀ e ∈ o.after.toList, Region.binds .any e = true → isL listed e.on) {i j : Nat} (h : Anc all i j) : isL listed i → isL listed j := by
  induction h with
  | one hi he hb => exact fun hl => hc _ _ hi hl _ he hb
  | more hi he hb _ ih => exact fun hl => ih (hc _ _ hi hl _ he hb)
theorem anc_ready {all : List Oper} {listed : Array Bool} (hc : ∀ (i : Nat) (o : Oper), all[i]? = some o → isL listed i → ∀ e ∈ o.after.toList, Region.binds .any e = true → isL listed e.on) {i j : Nat}
    (hr : ∀ o, all[i]? = some o → ∀ e ∈ o.after.toList, Region.binds .any e = true → isL listed e.on) (h : Anc all i j) : isL listed j := by
  cases h with
  | one hi he hb => exact hr _ hi _ he hb
  | more hi he hb h => exact anc_listed hc h (hr _ hi _ he hb)

theorem Goes.and {φ ψ χ : Phi} {G G' G'' : Nat → Option Blk} {n n' m m' : Nat} {w w' w'' : World} (h : Goes φ G n w ψ G' n' w') (h' : Goes ψ G' m w' χ G'' m' w'') (hm : n ≤ m) (hm' : m' ≤ n') :
    Goes φ G n w χ G'' n' w'' where
  le := Phi.le_trans h.le h'.le
  new := fun b hb => by
    by_cases h1 : χ b = ψ b
    · exact h.new b (by rwa [h1] at hb)
    · have := h'.new b h1; omega
  wr := h'.wr
  keep := fun c hc hno => by
    rw [h'.keep c (Nat.lt_of_lt_of_le hc h.size) ?_, h.keep c hc hno]
    intro b blk L hb hm hL heq
    rcases h.foot b blk L hb hL with hf | ⟨b₀, blk₀, L₀, h1, h2, h3, h4⟩
    · omega
    · exact hno b₀ blk₀ L₀ h1 (h4 hm) h2 (h3.trans heq)
  size := Nat.le_trans h.size h'.size
  foot := fun b blk L hb hL => by
    rcases h'.foot b blk L hb hL with hf | ⟨b₀, blk₀, L₀, h1, h2, h3, h4⟩
    · exact .inl (Nat.le_trans h.size hf)
    · rcases h.foot b₀ blk₀ L₀ h1 h2 with hf | ⟨b₁, blk₁, L₁, g1, g2, g3, g4⟩
      · exact .inl (by omega)
      · exact .inr ⟨b₁, blk₁, L₁, g1, g2, g3.trans h3, fun hm => g4 (h4 hm)⟩
  os := h'.os.trans h.os
  output := h'.output.trans h.output

section
variable {K : Tab} {all : List Oper} {n : Nat} {pl : List DI} {τ : Nat → AT} {η : Nat → AH} {val : Nat → AV}

/-- Memory: behind the last operation of kind 2 that is out, at place q - 1. -/
structure MemAt (pl : List DI) (η : Nat → AH) (φ0 : Phi) (w0 : World) (listed : Array Bool) (φ : Phi) (w : World) (q : Nat) : Prop where
  le : q ≤ pl.length
  least : q = 0 ∨ ∃ (r : Nat) (s : DI), q = r + 1 ∧ pl[r]? = some s ∧ s.kind = 2
  iff : ∀ (p : Nat) (s : DI), pl[p]? = some s → s.kind = 2 → (isL listed s.idx ↔ p < q)
  goes : Goes φ0 (η 0).get (η 0).next w0 φ (Gam pl η q) (η pl.length).next w
  c1 : ∀ b blk L, (η q).get b = some blk → cut pl η q φ b = some L → ∃ o, w.heap[L.b]? = some o ∧ Real (cut pl η q φ) L o blk
  c2 : ∀ p b blk L, q ≤ p → LayAt pl η p b blk → φ b = some L → ∃ o, w.heap[L.b]? = some o ∧ Real (cut pl η (p + 1) φ) L o blk

structure Mid (all : List Oper) (n : Nat) (pl : List DI) (τ : Nat → AT) (η : Nat → AH) (val : Nat → AV) (φ0 : Phi) (w0 : World) (listed : Array Bool) (φ : Phi) (a : Act) (w : World) : Prop where
  closed : ∀ (i : Nat) (o : Oper), all[i]? = some o → isL listed i → ∀ e ∈ o.after.toList, Region.binds .any e = true → isL listed e.on
  size : listed.size = all.length
  mem : ∃ q, MemAt pl η φ0 w0 listed φ w q
  range : ∀ b, (η 0).next ≤ b → b < (η pl.length).next → φ b ≠ none → ∃ (p : Nat) (s : DI), pl[p]? = some s ∧ isL listed s.idx ∧ (η p).next ≤ b ∧ b < (η (p + 1)).next
  tmps : ∀ t, (∃ (p : Nat) (s : DI), pl[p]? = some s ∧ isL listed s.idx ∧ s.o.dst = some t ∧ (∀ (p' : Nat) (s' : DI), pl[p']? = some s' → isL listed s'.idx → s'.o.dst = some t → p' ≤ p) ∧
      conc (cut pl η (p + 1) φ) (val p) = some (a.tmps.getD t undef)) ∨
    ((∀ (p : Nat) (s : DI), pl[p]? = some s → isL listed s.idx → s.o.dst ≠ some t) ∧ ∀ v, (τ 0).get t = some v → conc (cut pl η 0 φ) v = some (a.tmps.getD t undef))
  asize : a.tmps.size = n
  defers : DF φ0 (τ 0) n a.defers

variable {φ0 : Phi} {w0 : World} {listed : Array Bool} {φ : Phi} {a : Act} {w : World}

/-- One that may come next. -/
structure May (all : List Oper) (pl : List DI) (listed : Array Bool) (p : Nat) (s : DI) : Prop where
  here : pl[p]? = some s
  un : ¬ isL listed s.idx
  ready : ∀ o, all[s.idx]? = some o → ∀ e ∈ o.after.toList, Region.binds .any e = true → isL listed e.on

theorem May.lt {p : Nat} {s : DI} (h : May all pl listed p s) : p < pl.length := (List.getElem?_eq_some_iff.1 h.here).1

/-- Who is tied to it and stands ahead in the plan is out. -/
theorem May.before (hP : Plan all pl) (hI : Mid all n pl τ η val φ0 w0 listed φ a w) {p : Nat} {s : DI} (h : May all pl listed p s) {j : Nat} {t : DI} (hj : j < p) (ht : pl[j]? = some t) (htie : tied t s = true) : isL listed t.idx :=
  anc_ready hI.closed h.ready ((hP.sound p s h.here).anc _ (hP.tie j p t s hj ht h.here htie))
/-- Who is tied to it and stands behind in the plan is not out. -/
theorem May.behind (hP : Plan all pl) (hI : Mid all n pl τ η val φ0 w0 listed φ a w) {p : Nat} {s : DI} (h : May all pl listed p s) {j : Nat} {t : DI} (hj : p < j) (ht : pl[j]? = some t) (htie : tied s t = true) : ¬ isL listed t.idx :=
  fun hl => h.un (anc_listed hI.closed ((hP.sound j t ht).anc _ (hP.tie p j s t hj h.here ht htie)) hl)

theorem tied_read {x y : DI} {t : Tmp} (hd : x.o.dst = some t) (ht : t ∈ y.reads) : tied x y = true := by simp [tied, touches_of hd ht]
theorem tied_write {x y : DI} {t : Tmp} (hd : y.o.dst = some t) (ht : t ∈ x.reads) : tied x y = true := by simp [tied, touches_of hd ht]
theorem tied_dst {x y : DI} {t : Tmp} (hx : x.o.dst = some t) (hy : y.o.dst = some t) : tied x y = true := by simp [tied, hx, hy, sameDst]
theorem tied_heavy {x y : DI} (h : y.kind = 2) : tied x y = true := by simp [tied, h]

theorem Mid.read (hP : Plan all pl) (hT : Traced K all n pl [] τ η val) (hI : Mid all n pl τ η val φ0 w0 listed φ a w) {p : Nat} {s : DI} (h : May all pl listed p s) {t : Tmp} (ht : t ∈ readsOf all s.o) {v : AV}
    (hv : (τ p).get t = some v) : conc (cut pl η p φ) v = some (a.tmps.getD t undef) := by
  have hlt := h.lt
  have ht' : t ∈ s.reads := by rw [(hP.sound p s h.here).reads]; exact ht
  have hbehind : ∀ (p1 : Nat) (s1 : DI), pl[p1]? = some s1 → isL listed s1.idx → s1.o.dst = some t → p1 < p := fun p1 s1 h1 h2 h3 => by
    rcases Nat.lt_trichotomy p1 p with hh | hh | hh
    · exact hh
    · subst hh; rw [h.here] at h1; cases h1; exact absurd h2 h.un
    · exact absurd h2 (h.behind hP hI hh h1 (tied_write h3 ht'))
  rcases slot_of hT t p (by omega) v hv with ⟨j, sj, h1, h2, h3, h4, h5⟩ | ⟨h1, h2⟩
  · have hLj := h.before hP hI h1 h2 (tied_read h3 ht')
    rcases hI.tmps t with ⟨p1, s1, g1, g2, g3, g4, g5⟩ | ⟨g1, g2⟩
    · have hp1 := hbehind p1 s1 g1 g2 g3
      have hj1 := g4 j sj h2 hLj h3
      have : p1 = j := by
        rcases Nat.lt_or_ge j p1 with hh | hh
        · exact absurd g3 (h5 p1 s1 hh hp1 g1)
        · omega
      subst this
      subst h4
      exact conc_mono (cut_mono hT (by omega) (by omega) (Phi.le_refl φ)) _ g5
    · exact absurd h3 (g1 j sj h2 hLj)
  · rcases hI.tmps t with ⟨p1, s1, g1, g2, g3, g4, g5⟩ | ⟨g1, g2⟩
    · exact absurd g3 (h1 p1 s1 (hbehind p1 s1 g1 g2 g3) g1)
    · exact conc_mono (cut_mono hT (Nat.zero_le p) (by omega) (Phi.le_refl φ)) _ (g2 v h2)

theorem Mid.glob (hT : Traced K all n pl [] τ η val) (hg : Glob K.ng φ0) (hfr : ∀ b, (η 0).next ≤ b → b < (η pl.length).next → φ0 b = none) (hI : Mid all n pl τ η val φ0 w0 listed φ a w) {p : Nat} (hp : p ≤ pl.length) :
    Glob K.ng (cut pl η p φ) := fun g hgl => by
  obtain ⟨q, hM⟩ := hI.mem
  have hgo := hM.goes
  have h0 := hg g hgl
  have := hT.mono (Nat.zero_le p) hp
  have hnot : ¬ ((η p).next ≤ g ∧ g < (η pl.length).next) := fun hh => by
    rw [hfr g (by omega) hh.2] at h0; cases h0
  unfold cut
  rw [if_neg hnot]
  exact hgo.le _ _ h0

theorem Mid.or' (hP : Plan all pl) (hT : Traced K all n pl [] τ η val) (hg : Glob K.ng φ0) (hfr : ∀ b, (η 0).next ≤ b → b < (η pl.length).next → φ0 b = none) (hI : Mid all n pl τ η val φ0 w0 listed φ a w)
    {p : Nat} {s : DI} (h : May all pl listed p s) {q : Nat} (hq : q ≤ pl.length) (hlow : q = p ∨ lowOps (η q).next (τ p) s.o.op.operands.toList = true) : OR K.ng (cut pl η q φ) (τ p) a s.o.op.operands.toList := by
  intro x hx v hv
  have hgl := hI.glob hT hg hfr hq
  cases x with
  | tmp t =>
    have h1 := hI.read hP hT h (reads_op (all := all) hx) (v := v) hv
    rcases hlow with rfl | hlow
    · exact h1
    · exact lowV_cut (lowOps_mem hlow t hx v hv) (conc_mono (cut_le p φ) _ h1)
  | const c => exact conc_ofV _ hv
  | global g =>
    simp only [ev] at hv
    split at hv
    · rename_i hlt; cases hv; simp only [conc, concP, hgl g hlt, Act.eval, Nat.zero_add]
    · cases hv
  | func f => cases hv; rfl

theorem Mid.wanted (hP : Plan all pl) (hT : Traced K all n pl [] τ η val) (hI : Mid all n pl τ η val φ0 w0 listed φ a w) {p : Nat} {s : DI} (h : May all pl listed p s) {b : Bool} (hw : Want all s.o (τ p) b) :
    Region.wanted s.o (yielded all.toArray a.tmps) = b := by
  unfold Want at hw
  unfold Region.wanted
  split at hw
  · rename_i hg; rw [hg, hw]
  · rename_i j want hg
    rw [hg]
    obtain ⟨d, hd, hw⟩ := hw
    have hj : ((all.toArray[j]?).bind (·.dst)) = some d := by
      unfold dstOf at hd
      cases ho : all[j]? with
      | none => rw [ho] at hd; cases hd
      | some o => rw [ho] at hd; simp [ho, hd]
    have hr : ∀ v, (τ p).get d = some v → conc (cut pl η p φ) v = some (a.tmps.getD d undef) := fun v hv => hI.read hP hT h (reads_guard hg hd) hv
    rcases hw with ⟨c, hc, rfl⟩ | ⟨hc, rfl⟩
    · have := hr _ hc
      simp only [conc] at this
      injection this with this
      have hy : yielded all.toArray a.tmps j = some c := by
        unfold yielded
        rw [hj]
        simp only [Option.bind_some]
        cases hx : a.tmps[d]? with
        | none => simp [Array.getD_eq_getD_getElem?, hx, undef] at this
        | some x =>
          simp [Array.getD_eq_getD_getElem?, hx] at this
          rw [← this]
      simp only [hy]
      cases c <;> cases want <;> rfl
    · have := hr _ hc
      have h0 : conc (cut pl η p φ) (.tup []) = some (.tuple #[]) := rfl
      rw [h0] at this
      injection this with this
      have hy : yielded all.toArray a.tmps j = none := by
        unfold yielded
        rw [hj]
        simp only [Option.bind_some]
        cases hx : a.tmps[d]? with
        | none => rfl
        | some x =>
          simp [Array.getD_eq_getD_getElem?, hx] at this
          rw [← this]
      simp only [hy]
      cases want <;> rfl

theorem isL_set {i j : Nat} (hi : i < listed.size) : isL (listed.setIfInBounds i true) j ↔ j = i ∨ isL listed j := by
  unfold isL
  simp only [Array.getD_eq_getD_getElem?, Array.getElem?_setIfInBounds]
  by_cases h : i = j
  · subst h; simp [hi]
  · rw [if_neg h]
    constructor
    · exact .inr
    · rintro (e | e)
      · exact absurd e.symm h
      · exact e

/-- One more. -/
theorem Mid.next (hP : Plan all pl) (hT : Traced K all n pl [] τ η val) (hI : Mid all n pl τ η val φ0 w0 listed φ a w) {p : Nat} {s : DI} (h : May all pl listed p s) {φ' : Phi} {w' : World} {x : Value} (hle : φ.le φ')
    (hx : conc (cut pl η (p + 1) φ') (val p) = some x)
    (hmem : ∃ q, MemAt pl η φ0 w0 (listed.setIfInBounds s.idx true) φ' w' q)
    (hrange : ∀ b, (η 0).next ≤ b → b < (η pl.length).next → φ' b ≠ none → φ b ≠ none ∨ ((η p).next ≤ b ∧ b < (η (p + 1)).next)) :
    Mid all n pl τ η val φ0 w0 (listed.setIfInBounds s.idx true) φ' (a.put s.o.dst x) w' := by
  have hlt := h.lt
  have hidx : s.idx < listed.size := by rw [hI.size]; exact hP.lt p s h.here
  have hset : ∀ j, isL (listed.setIfInBounds s.idx true) j ↔ j = s.idx ∨ isL listed j := fun j => isL_set hidx
  have hdst := (hT p s h.here).dst
  refine ⟨fun i o hi hl e he hb => ?_, by simpa using hI.size, hmem, fun b h1 h2 h3 => ?_, fun t => ?_, ?_, ?_⟩
  · rw [hset] at hl ⊢
    rcases hl with rfl | hl
    · exact .inr (h.ready o hi e he hb)
    · exact .inr (hI.closed i o hi hl e he hb)
  · rcases hrange b h1 h2 h3 with h4 | h4
    · obtain ⟨p1, s1, g1, g2, g3⟩ := hI.range b h1 h2 h4
      exact ⟨p1, s1, g1, (hset _).2 (.inr g2), g3⟩
    · exact ⟨p, s, h.here, (hset _).2 (.inl rfl), h4⟩
  · by_cases hd : s.o.dst = some t
    · refine .inl ⟨p, s, h.here, (hset _).2 (.inl rfl), hd, fun p' s' g1 g2 g3 => ?_, ?_⟩
      · rw [hset] at g2
        rcases g2 with g2 | g2
        · exact Nat.le_of_eq (hP.once p' p s' s g1 h.here g2)
        · rcases Nat.lt_or_ge p p' with hh | hh
          · exact absurd g2 (h.behind hP hI hh g1 (tied_dst hd g3))
          · exact hh
      · rw [hx]
        have : t < a.tmps.size := by rw [hI.asize]; exact hdst t hd
        simp [Act.put, hd, this]
    · have hput : (a.put s.o.dst x).tmps.getD t undef = a.tmps.getD t undef := by
        cases hdd : s.o.dst with
        | none => rfl
        | some d =>
          have hne : d ≠ t := fun e => hd (by rw [hdd, e])
          simp only [Act.put, Array.getD_eq_getD_getElem?]
          rw [Array.getElem?_setIfInBounds_ne hne]
      rw [hput]
      rcases hI.tmps t with ⟨p1, s1, g1, g2, g3, g4, g5⟩ | ⟨g1, g2⟩
      · have hp1 : p1 < pl.length := (List.getElem?_eq_some_iff.1 g1).1
        refine .inl ⟨p1, s1, g1, (hset _).2 (.inr g2), g3, fun p' s' k1 k2 k3 => ?_, conc_mono (cut_mono hT (Nat.le_refl _) (by omega) hle) _ g5⟩
        rw [hset] at k2
        rcases k2 with k2 | k2
        · obtain rfl := hP.once p' p s' s k1 h.here k2
          rw [h.here] at k1; cases k1
          exact absurd k3 hd
        · exact g4 p' s' k1 k2 k3
      · refine .inr ⟨fun p' s' k1 k2 => ?_, fun v hv => conc_mono (cut_mono hT (Nat.le_refl _) (Nat.zero_le _) hle) _ (g2 v hv)⟩
        rw [hset] at k2
        rcases k2 with k2 | k2
        · obtain rfl := hP.once p' p s' s k1 h.here k2
          rw [h.here] at k1; cases k1
          exact hd
        · exact g1 p' s' k1 k2
  · have := hI.asize
    cases s.o.dst <;> simpa [Act.put] using this
  · have := hI.defers
    cases s.o.dst <;> simpa [Act.put] using this

end
end GoX
