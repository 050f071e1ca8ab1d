/-
  ROWS OF OPERATIONS WHOSE ORDER IS DRAWN: what was seen on the way. No program is named here.
-/
import Derived.Test.YtnmjhbnadfjapaaXCode5
namespace GoX
open Go

def Want (all : List Oper) (o : Oper) (T : AT) (b : Bool) : Prop :=
  match o.guard with
  | none => b = true
  | some (j, want) => ∃ d, dstOf all j = some d ∧ ((∃ c, T.get d = some (.bool c) ∧ b = (c == want)) ∨ (T.get d = some (.tup []) ∧ b = false))

inductive Acts (K : Tab) (s : DI) (T : AT) (H : AH) (Past : Nat × AH → Prop) (v : AV) (H' : AH) : Prop
  | light : s.kind ≠ 2 → H' = H → (SimL K T (fun _ => none) s.o.op v ∨ (SimL K T H.get s.o.op v ∧
      ∀ x, Past x → bit s.anc x.1 = true ∨ (lowOps x.2.next T s.o.op.operands.toList = true ∧ SimL K T x.2.get s.o.op v))) → Acts K s T H Past v H'
  | lays (blk : Blk) : s.kind ≠ 2 → SimA K T s.o.op H.next v blk → H'.get = upd H.get H.next (some blk) → H'.next = H.next + 1 → Acts K s T H Past v H'
  | heavy : s.kind = 2 → SimP K T H.get H.next s.o.op (fun u I => u = v ∧ I = H') → Acts K s T H Past v H'

structure StepOk (K : Tab) (all : List Oper) (n : Nat) (s : DI) (T : AT) (H : AH) (Past : Nat × AH → Prop) (v : AV) (T' : AT) (H' : AH) : Prop where
  dst : ∀ i, s.o.dst = some i → i < n
  put : T' = putT T s.o.dst v
  le : H.next ≤ H'.next
  act : (Want all s.o T false ∧ v = unitA ∧ H' = H) ∨ (Want all s.o T true ∧ Acts K s T H Past v H')

theorem StepOk.past {K : Tab} {all : List Oper} {n : Nat} {s : DI} {T : AT} {H : AH} {Past Past' : Nat × AH → Prop} {v : AV} {T' : AT} {H' : AH} (h : StepOk K all n s T H Past v T' H') (hp : ∀ x, Past' x → Past x) :
    StepOk K all n s T H Past' v T' H' := by
  refine ⟨h.dst, h.put, h.le, ?_⟩
  rcases h.act with h | ⟨hw, h⟩
  · exact .inl h
  · refine .inr ⟨hw, ?_⟩
    cases h with
    | light h1 h2 h3 => exact .light h1 h2 (h3.imp id fun g => ⟨g.1, fun x hx => g.2 x (hp x hx)⟩)
    | lays blk h1 h2 h3 h4 => exact .lays blk h1 h2 h3 h4
    | heavy h1 h2 => exact .heavy h1 h2

theorem cStep_ok {all : List Oper} {n : Nat} {o : Oper} {c : CH} {T : AT} {H : AH} {k : AT → AH → Bool} (h : (cStep all n o c).go T H k = true) : (∀ i, o.dst = some i → i < n) ∧
    ((Want all o T false ∧ k (putT T o.dst unitA) H = true) ∨ (Want all o T true ∧ c.go T H (fun v H => k (putT T o.dst v) H) = true)) := by
  unfold cStep at h
  split at h
  · rename_i hd
    refine ⟨dst_lt hd, ?_⟩
    have hyes : (cRun c o.dst).go T H k = true → c.go T H (fun v H => k (putT T o.dst v) H) = true := fun h => by
      unfold cRun at h
      cases hdst : o.dst with
      | none => rw [hdst] at h; exact h
      | some d =>
        rw [hdst] at h
        simp only [Trie.putK_eq] at h
        exact h
    have hno : (cSkip o.dst).go T H k = true → k (putT T o.dst unitA) H = true := fun h => by
      unfold cSkip at h
      cases hdst : o.dst with
      | none => rw [hdst] at h; exact h
      | some d =>
        rw [hdst] at h
        simp only [Trie.putK_eq] at h
        exact h
    unfold cGuard at h
    unfold Want
    split at h
    · rename_i hg
      rw [hg]
      exact .inr ⟨rfl, hyes h⟩
    · rename_i j want hg
      rw [hg]
      simp only
      split at h
      · cases h
      · rename_i d hdst
        obtain ⟨v, hv, h⟩ := getT_ok h
        match v, hv, h with
        | .bool true, hv, h =>
          cases want with
          | true => exact .inr ⟨⟨d, hdst, .inl ⟨true, hv, rfl⟩⟩, hyes h⟩
          | false => exact .inl ⟨⟨d, hdst, .inl ⟨true, hv, rfl⟩⟩, hno h⟩
        | .bool false, hv, h =>
          cases want with
          | true => exact .inl ⟨⟨d, hdst, .inl ⟨false, hv, rfl⟩⟩, hno h⟩
          | false => exact .inr ⟨⟨d, hdst, .inl ⟨false, hv, rfl⟩⟩, hyes h⟩
        | .tup [], hv, h => exact .inl ⟨⟨d, hdst, .inr ⟨hv, trivial⟩⟩, hno h⟩
  · cases h

theorem AH.empty_get : AH.empty.get = fun _ => none := by
  funext b
  exact Trie.get_leaf b

theorem sameBack_ok {K : Tab} {op : Op} {c : CL} (hc : CL.Good K op c) {anc : Nat} {T : AT} {v : AV} : ∀ {Hs : List (Nat × AH)}, sameBack c anc op.operands.toList T v Hs = true →
    ∀ x ∈ Hs, bit anc x.1 = true ∨ (lowOps x.2.next T op.operands.toList = true ∧ SimL K T x.2.get op v)
  | [], _, x, hx => by cases hx
  | y :: l, h, x, hx => by
    have h' : ((bit anc y.1 || (lowOps y.2.next T op.operands.toList && c.go T y.2 fun u => eqA u v)) && sameBack c anc op.operands.toList T v l) = true := h
    simp only [Bool.and_eq_true, Bool.or_eq_true] at h'
    rcases List.mem_cons.1 hx with rfl | hx
    · rcases h'.1 with h1 | ⟨h1, h2⟩
      · exact .inl h1
      · obtain ⟨u, hu, he⟩ := hc T _ _ h2
        rw [eqA_ok he] at hu
        exact .inr ⟨h1, hu⟩
    · exact sameBack_ok hc h'.2 x hx

def ahead {α : Type} (x : α) (f : Nat → α) : Nat → α
  | 0 => x
  | p + 1 => f p

def PastOf (l : List DI) (Hs : List (Nat × AH)) (η : Nat → AH) (p : Nat) (x : Nat × AH) : Prop := x ∈ Hs ∨ ∃ h sh, h < p ∧ l[h]? = some sh ∧ sh.kind = 2 ∧ x = (sh.idx, η h)

def Traced (K : Tab) (all : List Oper) (n : Nat) (l : List DI) (Hs : List (Nat × AH)) (τ : Nat → AT) (η : Nat → AH) (val : Nat → AV) : Prop :=
  ∀ p s, l[p]? = some s → StepOk K all n s (τ p) (η p) (PastOf l Hs η p) (val p) (τ (p + 1)) (η (p + 1))

theorem Traced.cons {K : Tab} {all : List Oper} {n : Nat} {s : DI} {l : List DI} {Hs Hs' : List (Nat × AH)} {T : AT} {H : AH} {v : AV} {τ : Nat → AT} {η : Nat → AH} {val : Nat → AV}
    (h0 : StepOk K all n s T H (· ∈ Hs) v (τ 0) (η 0)) (h : Traced K all n l Hs' τ η val) (hs : ∀ x, x ∈ Hs → x ∈ Hs') (hk : s.kind = 2 → (s.idx, H) ∈ Hs') :
    Traced K all n (s :: l) Hs (ahead T τ) (ahead H η) (ahead v val) := by
  intro p t hp
  cases p with
  | zero =>
    simp at hp
    subst hp
    refine h0.past fun x hx => ?_
    rcases hx with hx | ⟨h, _, hlt, _⟩
    · exact hx
    · exact absurd hlt (by omega)
  | succ p =>
    refine (h p t (by simpa using hp)).past fun x hx => ?_
    rcases hx with hx | ⟨q, sh, hlt, hq, hkd, rfl⟩
    · exact .inl (hs x hx)
    · cases q with
      | zero =>
        simp at hq
        subst hq
        exact .inl (hk hkd)
      | succ q => exact .inr ⟨q, sh, by omega, by simpa using hq, hkd, rfl⟩

theorem cDraw_trace {K : Tab} (hK : K.Ok) {n : Nat} {call : FuncId → CF} (hf : ∀ f, (call f).Good K true f) (all : List Oper) : ∀ (l : List DI) (T : AT) (H : AH) (Hs : List (Nat × AH)) (k : Ex → AT → AH → Bool),
    (cDraw K n call all l).go T H Hs k = true → ∃ τ η val, τ 0 = T ∧ η 0 = H ∧ Traced K all n l Hs τ η val ∧ k .normal (τ l.length) (η l.length) = true
  | [], T, H, Hs, k, h => ⟨fun _ => T, fun _ => H, fun _ => unitA, rfl, rfl, fun p s hp => by simp at hp, h⟩
  | s :: l, T, H, Hs, k, h => by
    have fin : ∀ (Hs' : List (Nat × AH)) (v : AV) (T' : AT) (H' : AH), StepOk K all n s T H (· ∈ Hs) v T' H' → (∀ x, x ∈ Hs → x ∈ Hs') → (s.kind = 2 → (s.idx, H) ∈ Hs') →
        (cDraw K n call all l).go T' H' Hs' k = true → ∃ τ η val, τ 0 = T ∧ η 0 = H ∧ Traced K all n (s :: l) Hs τ η val ∧ k .normal (τ (s :: l).length) (η (s :: l).length) = true := fun Hs' v T' H' h0 hs hk hgo => by
      obtain ⟨τ, η, val, rfl, rfl, h1, h2⟩ := cDraw_trace hK hf all l T' H' Hs' k hgo
      exact ⟨ahead T τ, ahead H η, ahead v val, rfl, rfl, h1.cons h0 hs hk, h2⟩
    obtain ⟨o, idx, anc, kind, reads⟩ := s
    match kind, h with
    | 0, h =>
      cases ha : asksMem o.op with
      | false =>
        have h' : (cStep all n o (cLight K o.op)).go T H (fun T H => (cDraw K n call all l).go T H Hs k) = true := by
          have : (match asksMem o.op with
            | false => (⟨fun T H Hs k => (cStep all n o (cLight K o.op)).go T H fun T H => (cDraw K n call all l).go T H Hs k⟩ : CD)
            | true => ⟨fun T H Hs k => (cStep all n o (cBack K o.op anc Hs)).go T H fun T H => (cDraw K n call all l).go T H Hs k⟩).go T H Hs k = true := h
          rw [ha] at this
          exact this
        obtain ⟨hd, ⟨hw, hk⟩ | ⟨hw, hk⟩⟩ := cStep_ok h'
        · exact fin Hs unitA _ H ⟨hd, rfl, Nat.le_refl _, .inl ⟨hw, rfl, rfl⟩⟩ (fun _ h => h) (fun e => by cases e) hk
        · obtain ⟨v, hv, hk⟩ := cl_good hK o.op T .empty _ hk
          rw [AH.empty_get] at hv
          exact fin Hs v _ H ⟨hd, rfl, Nat.le_refl _, .inr ⟨hw, .light (by simp) rfl (.inl hv)⟩⟩ (fun _ h => h) (fun e => by cases e) hk
      | true =>
        have h' : (cStep all n o (cBack K o.op anc Hs)).go T H (fun T H => (cDraw K n call all l).go T H Hs k) = true := by
          have : (match asksMem o.op with
            | false => (⟨fun T H Hs k => (cStep all n o (cLight K o.op)).go T H fun T H => (cDraw K n call all l).go T H Hs k⟩ : CD)
            | true => ⟨fun T H Hs k => (cStep all n o (cBack K o.op anc Hs)).go T H fun T H => (cDraw K n call all l).go T H Hs k⟩).go T H Hs k = true := h
          rw [ha] at this
          exact this
        obtain ⟨hd, ⟨hw, hk⟩ | ⟨hw, hk⟩⟩ := cStep_ok h'
        · exact fin Hs unitA _ H ⟨hd, rfl, Nat.le_refl _, .inl ⟨hw, rfl, rfl⟩⟩ (fun _ h => h) (fun e => by cases e) hk
        · obtain ⟨v, hv, hk⟩ := cl_good hK o.op T H _ hk
          obtain ⟨hb, hk⟩ := cond_true_of hk
          exact fin Hs v _ H ⟨hd, rfl, Nat.le_refl _, .inr ⟨hw, .light (by simp) rfl (.inr ⟨hv, sameBack_ok (cl_good hK o.op) hb⟩)⟩⟩ (fun _ h => h) (fun e => by cases e) hk
    | 1, h =>
      obtain ⟨hd, ⟨hw, hk⟩ | ⟨hw, hk⟩⟩ := cStep_ok (show (cStep all n o (ca K o.op).heavy).go T H (fun T H => (cDraw K n call all l).go T H Hs k) = true from h)
      · exact fin Hs unitA _ H ⟨hd, rfl, Nat.le_refl _, .inl ⟨hw, rfl, rfl⟩⟩ (fun _ h => h) (fun e => by cases e) hk
      · obtain ⟨v, blk, hv, hk⟩ := ca_good hK o.op T H.next _ hk
        rw [forceN_eq, Trie.putK_eq] at hk
        exact fin Hs v _ _ ⟨hd, rfl, Nat.le_succ _, .inr ⟨hw, .lays blk (by simp) hv (AH.get_set H _ _ _) rfl⟩⟩ (fun _ h => h) (fun e => by cases e) hk
    | 2, h =>
      obtain ⟨hd, ⟨hw, hk⟩ | ⟨hw, hk⟩⟩ := cStep_ok (show (cStep all n o (cp K true call o.op)).go T H (fun T' H' => (cDraw K n call all l).go T' H' ((idx, H) :: Hs) k) = true from h)
      · exact fin _ unitA _ H ⟨hd, rfl, Nat.le_refl _, .inl ⟨hw, rfl, rfl⟩⟩ (fun _ h => by simp [h]) (fun _ => by simp) hk
      · obtain ⟨O, h1, h2, h3⟩ := cp_fine hK hf o.op T H _ hk
        obtain ⟨v, H', hone⟩ := h3 rfl
        obtain ⟨u, I, hO⟩ := h2.1
        obtain ⟨rfl, rfl⟩ := hone u I hO
        have hOe : O = fun u' I' => u' = u ∧ I' = I := by
          funext u' I'
          apply propext
          exact ⟨fun h => hone u' I' h, fun ⟨e1, e2⟩ => by rw [e1, e2]; exact hO⟩
        rw [hOe] at h2
        exact fin _ u _ I ⟨hd, rfl, h2.2.1 u I ⟨rfl, rfl⟩, .inr ⟨hw, .heavy rfl h2⟩⟩ (fun _ h => by simp [h]) (fun _ => by simp) (h1 u I hO)
    | _ + 3, h => cases h

end GoX
