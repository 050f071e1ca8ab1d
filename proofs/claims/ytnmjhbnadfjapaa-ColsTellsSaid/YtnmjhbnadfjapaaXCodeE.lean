/-
  ONE OUTCOME OF SEVERAL ORDERS: a function that ranges over maps, run once in one order; all other orders are shown to end the same. No program is named here.
-/
import Derived.Test.YtnmjhbnadfjapaaXCodeD
namespace GoX
open Go

/-! ### What runs on, runs on with something -/
def CH.Tame (c : CH) : Prop := ∀ T H k, c.go T H k = true → ∃ v H', k v H' = true
def CS.Tame (c : CS) : Prop := ∀ T H k, c.go T H k = true → ∃ T' H', k T' H' = true
def CC.Tame (c : CC) : Prop := ∀ T H k, c.go T H k = true → ∃ e T' H', k e T' H' = true
def CF.Tame (c : CF) : Prop := ∀ args H k, c.go args H k = true → ∃ v H', k v H' = true

theorem CH.Fine.tame {K : Tab} {det : Bool} {op : Op} {c : CH} (h : CH.Fine K det op c) : c.Tame := fun T H k hk => by
  obtain ⟨O, h1, h2, _⟩ := h T H k hk
  obtain ⟨v, H', hO⟩ := h2.1
  exact ⟨v, H', h1 _ _ hO⟩
theorem CC.Good.tame {K : Tab} {det : Bool} {n : Nat} {W : Post → Act → World → Prop} {c : CC} (h : CC.Good K det n W c) : c.Tame := fun T H k hk => by
  obtain ⟨O, h1, h2, _⟩ := h T H k hk
  obtain ⟨e, T', H', hO⟩ := h2.1
  exact ⟨e, T', H', h1 _ _ _ hO⟩
theorem CC.none_tame : CC.none.Tame := fun _ _ _ h => by cases h
theorem CF.none_tame : CF.none.Tame := fun _ _ _ h => by cases h

/-- Where it stands in a map: the first entry that may come next. -/
noncomputable def hNextF (K : Tab) (it : Operand) : CH := ⟨fun T H k => (ce K.ng it).go T fun v => match v with
  | .ptr (some (r, 0)) => Trie.getK (bits r) H.t false fun blk => match blk with
    | .mapIter none _ _ _ => k (.tup [.bool false]) H
    | .mapIter (some m) since seen _ => Trie.getK (bits m) H.t false fun blk => match blk with
      | .map es clock => match unseen seen es with
        | [] => k (.tup [.bool false]) H
        | e :: _ => putBlkK H r (.mapIter (some m) since (seen ++ [e.born]) clock) fun H => k (.tup [.bool true, e.key, e.val]) H
      | _ => false
    | _ => false
  | _ => false⟩
theorem hNextF_tame (K : Tab) (it : Operand) : (hNextF K it).Tame := fun T H k h => by
  obtain ⟨v, hv, h⟩ := ce_ok h
  split at h
  · obtain ⟨blk, hb, h⟩ := getK_ok h
    split at h
    · exact ⟨_, _, h⟩
    · obtain ⟨blk, hb, h⟩ := getK_ok h
      split at h
      · split at h
        · exact ⟨_, _, h⟩
        · obtain ⟨H', _, _, h⟩ := putBlkK_ok h
          exact ⟨_, _, h⟩
      · cases h
    · cases h
  · cases h

theorem cRun_tame {c : CH} (hc : c.Tame) (d : Option Tmp) : (cRun c d).Tame := fun T H k h => by
  cases d with
  | none => obtain ⟨v, H', h⟩ := hc T H _ h; exact ⟨_, _, h⟩
  | some d =>
    obtain ⟨v, H', h⟩ := hc T H _ h
    rw [Trie.putK_eq] at h
    exact ⟨_, _, h⟩
theorem cSkip_tame (d : Option Tmp) : (cSkip d).Tame := fun T H k h => by
  cases d with
  | none => exact ⟨_, _, h⟩
  | some d =>
    have h : Trie.putK (bits d) T (some unitA) (fun T => k T H) = true := h
    rw [Trie.putK_eq] at h
    exact ⟨_, _, h⟩
theorem cGuard_tame (all : List Oper) (g : Option (Nat × Bool)) {x y : CS} (hx : x.Tame) (hy : y.Tame) : (cGuard all g x y).Tame := fun T H k h => by
  rcases g with _ | ⟨j, want⟩
  · exact hx T H k h
  · unfold cGuard at h
    split at h
    · rename_i hg; cases hg
    · rename_i j' want' hg
      cases hg
      split at h
      · cases h
      · obtain ⟨v, _, h⟩ := getT_ok h
        match v, h with
        | .bool true, h => cases want <;> first | exact hx T H k h | exact hy T H k h
        | .bool false, h => cases want <;> first | exact hx T H k h | exact hy T H k h
        | .tup [], h => exact hy T H k h

/-- An operation in its row, an iterator's step alone in one order. -/
noncomputable def cOperF (K : Tab) (n : Nat) (call : FuncId → CF) (all : List Oper) (o : Oper) : CS := match dstOk n o.dst with
  | true => match o.op with
    | .next it false => cGuard all o.guard (cRun (hNextF K it) o.dst) (cSkip o.dst)
    | op => cGuard all o.guard (cRun (cp K true call op) o.dst) (cSkip o.dst)
  | false => ⟨fun _ _ _ => false⟩
theorem cOperF_tame {K : Tab} (hK : K.Ok) {n : Nat} {call : FuncId → CF} (hf : ∀ f, (call f).Good K true f) (all : List Oper) (o : Oper) : (cOperF K n call all o).Tame := by
  unfold cOperF
  split
  · split
    · exact cGuard_tame all _ (cRun_tame (hNextF_tame K _) _) (cSkip_tame _)
    · exact cGuard_tame all _ (cRun_tame (cp_fine hK hf _).tame _) (cSkip_tame _)
  · exact fun _ _ _ h => by cases h
noncomputable def cOpsF (K : Tab) (n : Nat) (call : FuncId → CF) (all : List Oper) (l : List Oper) : CC :=
  List.rec ⟨fun T H k => k .normal T H⟩ (fun o _ ih => ⟨fun T H k => (cOperF K n call all o).go T H fun T H => ih.go T H k⟩) l
theorem cOpsF_tame {K : Tab} (hK : K.Ok) {n : Nat} {call : FuncId → CF} (hf : ∀ f, (call f).Good K true f) (all : List Oper) : ∀ l : List Oper, (cOpsF K n call all l).Tame
  | [], T, H, k, h => ⟨_, _, _, h⟩
  | o :: l, T, H, k, h => by
    obtain ⟨T', H', h⟩ := cOperF_tame hK hf all o T H _ (show (cOperF K n call all o).go T H (fun T H => (cOpsF K n call all l).go T H k) = true from h)
    exact cOpsF_tame hK hf all l T' H' k h

noncomputable def ccF (K : Tab) (n lf : Nat) (call : FuncId → CF) (dr : List Oper → CC) (c : Code) : CC :=
  Code.rec
    ⟨fun T H k => k .normal T H⟩
    (fun _ ops draw => Bool.casesOn draw (cOpsF K n call ops.toList ops.toList) (dr ops.toList))
    (fun _ _ x y => seqC x y)
    (fun c _ _ x y => condC K c x y)
    (fun id _ x => ⟨fun T H k => x.go T H (blockK id k)⟩)
    (fun _ x => loopC x lf)
    (fun _ _ _ _ _ _ => CC.none)
    (fun id => ⟨fun T H k => k (.exit id) T H⟩)
    (fun _ x => ⟨fun T H k => x.go T H (scopeK k)⟩)
    (fun _ => ⟨fun T H k => k .normal T H⟩)
    (fun l => ⟨fun T H k => k (.goto l) T H⟩)
    ⟨fun T H k => k .ret T H⟩
    (fun _ => CC.none) c

theorem seqC_tame {x y : CC} (hx : x.Tame) (hy : y.Tame) : (seqC x y).Tame := fun T H k h => by
  obtain ⟨e, T', H', h⟩ := hx T H _ h
  cases e with
  | normal => exact hy T' H' k h
  | _ => exact ⟨_, _, _, h⟩
theorem loopC_tame {b : CC} (hb : b.Tame) : ∀ fuel, (loopC b fuel).Tame
  | 0 => CC.none_tame
  | fuel + 1 => fun T H k h => by
    obtain ⟨e, T', H', h⟩ := hb T H _ (show b.go T H (thenK (loopC b fuel) k) = true from h)
    cases e with
    | normal => exact loopC_tame hb fuel T' H' k h
    | _ => exact ⟨_, _, _, h⟩

theorem ccF_tame {K : Tab} (hK : K.Ok) {n lf : Nat} {call : FuncId → CF} (hf : ∀ f, (call f).Good K true f) {dr : List Oper → CC} (hd : ∀ ops : Array Oper, (dr ops.toList).Tame) (c : Code) :
    (ccF K n lf call dr c).Tame := by
  induction c with
  | skip => exact fun T H k h => ⟨_, _, _, h⟩
  | region id ops draw =>
    cases draw with
    | true => exact hd ops
    | false => exact cOpsF_tame hK hf ops.toList ops.toList
  | seq x y hx hy => exact seqC_tame hx hy
  | cond c x y hx hy =>
    intro T H k h
    obtain ⟨v, hv, h⟩ := ce_ok (show (ce K.ng c).go T _ = true from h)
    split at h
    · rename_i b
      cases b
      · exact hy T H k h
      · exact hx T H k h
    · cases h
  | block id x hx =>
    intro T H k h
    obtain ⟨e, T', H', h⟩ := hx T H _ h
    rw [blockK_eq] at h
    exact ⟨_, _, _, h⟩
  | loop x hx => exact loopC_tame hx lf
  | rangeFunc f ps x y => exact CC.none_tame
  | exit id => exact fun T H k h => ⟨_, _, _, h⟩
  | scope x hx =>
    intro T H k h
    obtain ⟨e, T', H', h⟩ := hx T H _ h
    cases e with
    | goto l => cases h
    | _ => exact ⟨_, _, _, h⟩
  | label l => exact fun T H k h => ⟨_, _, _, h⟩
  | goto l => exact fun T H k h => ⟨_, _, _, h⟩
  | ret => exact fun T H k h => ⟨_, _, _, h⟩
  | refuse why => exact CC.none_tame

/-- A function, in one order of each map. -/
noncomputable def cfF (K : Tab) (lf : Nat) (dr : Nat → (FuncId → CF) → List Oper → CC) (call : FuncId → CF) (f : FuncId) : CF :=
  match K.fns f with
  | some fn => match fn.body with
    | some c => ⟨fun args H k => cond (Nat.ble args.length fn.ntmps) (Trie.ofListK args 0 .leaf fun T => (ccF K fn.ntmps lf call (dr fn.ntmps call) c).go T H (endK K fn.ntmps fn.results.toList k)) false⟩
    | none => CF.none
  | none => CF.none
theorem cfF_tame {K : Tab} (hK : K.Ok) {lf : Nat} {dr : Nat → (FuncId → CF) → List Oper → CC} (hdr : DrGood K true dr) {call : FuncId → CF} (hf : ∀ f, (call f).Good K true f) (f : FuncId) :
    (cfF K lf dr call f).Tame := by
  unfold cfF
  split
  · rename_i fn hfn
    split
    · rename_i c hc
      intro args H k h
      obtain ⟨_, h⟩ := cond_true_of h
      rw [Trie.ofListK_eq] at h
      obtain ⟨e, T', H', h⟩ := ccF_tame hK hf (fun ops => (hdr fn.ntmps call hf ops).tame) c _ _ _ h
      have key : leaveK fn.ntmps T' H' (fun H => (resC K fn.results.toList).go T' H (oneK fun v => k v H)) = true → ∃ v H', k v H' = true := fun h => by
        obtain ⟨vs, h1, _⟩ := resC_ok hK fn.ntmps (leaveK_ok h).2
        rw [oneK_eq] at h1
        exact ⟨_, _, h1⟩
      cases e with
      | normal => exact key h
      | ret => exact key h
      | exit i => cases h
      | goto l => cases h
    · exact CF.none_tame
  · exact CF.none_tame

/-! ### Whether two are the same -/
theorem and_ok {a b : Bool} (h : (a && b) = true) : a = true ∧ b = true := by simpa using h
noncomputable def smU (s : List UInt8) : List UInt8 → Bool := List.rec (fun t => List.casesOn t true fun _ _ => false)
  (fun c _ ih t => List.casesOn t false fun d t => cond (Nat.beq c.toNat d.toNat) (ih t) false) s
theorem smU_ok : ∀ {s t : List UInt8}, smU s t = true → s = t
  | [], [], _ => rfl
  | [], _ :: _, h => by cases h
  | _ :: _, [], h => by cases h
  | c :: s, d :: t, h => by
    obtain ⟨h1, h2⟩ := cond_true_of (show cond (Nat.beq c.toNat d.toNat) (smU s t) false = true from h)
    rw [UInt8.toNat_inj.1 (beq_eq' h1), smU_ok h2]
noncomputable def smL {α : Type} (f : α → α → Bool) (s : List α) : List α → Bool := List.rec (fun t => List.casesOn t true fun _ _ => false)
  (fun c _ ih t => List.casesOn t false fun d t => cond (f c d) (ih t) false) s
theorem smL_ok {α : Type} {f : α → α → Bool} (hf : ∀ a b, f a b = true → a = b) : ∀ {s t : List α}, smL f s t = true → s = t
  | [], [], _ => rfl
  | [], _ :: _, h => by cases h
  | _ :: _, [], h => by cases h
  | c :: s, d :: t, h => by
    obtain ⟨h1, h2⟩ := cond_true_of (show cond (f c d) (smL f s t) false = true from h)
    rw [hf _ _ h1, smL_ok hf h2]
def smI : Int → Int → Bool
  | .ofNat a, .ofNat b => Nat.beq a b
  | .negSucc a, .negSucc b => Nat.beq a b
  | _, _ => false
theorem smI_ok {a b : Int} (h : smI a b = true) : a = b := by
  cases a <;> cases b <;> first | (cases h; done) | (rw [beq_eq' h])
def smP : Option (Nat × Nat) → Option (Nat × Nat) → Bool
  | none, none => true
  | some (a, b), some (c, d) => Nat.beq a c && Nat.beq b d
  | _, _ => false
theorem smP_ok : ∀ {a b : Option (Nat × Nat)}, smP a b = true → a = b
  | none, none, _ => rfl
  | none, some _, h => by cases h
  | some _, none, h => by cases h
  | some (a, b), some (c, d), h => by
    obtain ⟨h1, h2⟩ := and_ok (show (Nat.beq a c && Nat.beq b d) = true from h)
    rw [beq_eq' h1, beq_eq' h2]
def smO : Option Nat → Option Nat → Bool
  | none, none => true
  | some a, some c => Nat.beq a c
  | _, _ => false
theorem smO_ok {a b : Option Nat} (h : smO a b = true) : a = b := by
  cases a <;> cases b <;> first | rfl | (cases h; done) | (rw [beq_eq' h])
def smC : Cap → Cap → Bool
  | .exact a, .exact b => Nat.beq a b
  | .opened a, .opened b => Nat.beq a b
  | .edge a b, .edge c d => Nat.beq a c && Nat.beq b d
  | _, _ => false
theorem smC_ok {a b : Cap} (h : smC a b = true) : a = b := by
  cases a <;> cases b <;> first | (cases h; done) | (rw [beq_eq' h]; done) | skip
  rename_i a b c d
  obtain ⟨h1, h2⟩ := and_ok (show (Nat.beq a c && Nat.beq b d) = true from h)
  rw [beq_eq' h1, beq_eq' h2]

noncomputable def smV1 (ih : AV → AV → Bool) : AV → AV → Bool
  | .bool a, .bool b => Bool.casesOn a (Bool.casesOn b true false) b
  | .int k a, .int l b => decide (k = l) && smI a b
  | .str s, .str t => smU s t
  | .ptr a, .ptr b => smP a b
  | .sl a n c, .sl b m d => smP a b && (Nat.beq n m && smC c d)
  | .map a, .map b => smO a b
  | .nilFn, .nilFn => true
  | .ifc t v, .ifc u x => Nat.beq t u && ih v x
  | .nilIfc, .nilIfc => true
  | .agg l, .agg r => smL ih l r
  | .tup l, .tup r => smL ih l r
  | _, _ => false
theorem smV1_ok {ih : AV → AV → Bool} (hi : ∀ a b, ih a b = true → a = b) : ∀ {a b : AV}, smV1 ih a b = true → a = b := fun {a b} h => by
  unfold smV1 at h
  split at h
  · rename_i a b
    cases a <;> cases b <;> first | rfl | (cases h; done)
  · obtain ⟨h1, h2⟩ := and_ok h
    rw [of_decide_eq_true h1, smI_ok h2]
  · rw [smU_ok h]
  · rw [smP_ok h]
  · obtain ⟨h1, h2⟩ := and_ok h
    obtain ⟨h2, h3⟩ := and_ok h2
    rw [smP_ok h1, beq_eq' h2, smC_ok h3]
  · rw [smO_ok h]
  · rfl
  · obtain ⟨h1, h2⟩ := and_ok h
    rw [beq_eq' h1, hi _ _ h2]
  · rfl
  · rw [smL_ok hi h]
  · rw [smL_ok hi h]
  · cases h
noncomputable def smV (n : Nat) : AV → AV → Bool := Nat.rec (fun _ _ => false) (fun _ ih => smV1 ih) n
theorem smV_ok : ∀ (n : Nat) (a b : AV), smV n a b = true → a = b
  | 0, _, _, h => by cases h
  | n + 1, _, _, h => smV1_ok (smV_ok n) h
noncomputable def smE (n : Nat) (a b : Ent) : Bool := smV n a.key b.key && (smV n a.val b.val && Nat.beq a.born b.born)
theorem smE_ok (n : Nat) (a b : Ent) (h : smE n a b = true) : a = b := by
  obtain ⟨h1, h2⟩ := and_ok h
  obtain ⟨h2, h3⟩ := and_ok h2
  cases a; cases b
  simp only at h1 h2 h3
  rw [smV_ok _ _ _ h1, smV_ok _ _ _ h2, beq_eq' h3]
noncomputable def smB (n : Nat) : Blk → Blk → Bool
  | .cells a e k, .cells b f l => smL (smV n) a b && (Nat.beq e f && Nat.beq k l)
  | .map a e, .map b f => smL (smE n) a b && Nat.beq e f
  | .strIter s a, .strIter t b => smU s t && Nat.beq a b
  | .mapIter a b l c, .mapIter d e r f => smO a d && (Nat.beq b e && (smL Nat.beq l r && Nat.beq c f))
  | _, _ => false
theorem smB_ok {n : Nat} {a b : Blk} (h : smB n a b = true) : a = b := by
  unfold smB at h
  split at h
  · obtain ⟨h1, h2⟩ := and_ok h
    obtain ⟨h2, h3⟩ := and_ok h2
    rw [smL_ok (smV_ok n) h1, beq_eq' h2, beq_eq' h3]
  · obtain ⟨h1, h2⟩ := and_ok h
    rw [smL_ok (smE_ok n) h1, beq_eq' h2]
  · obtain ⟨h1, h2⟩ := and_ok h
    rw [smU_ok h1, beq_eq' h2]
  · obtain ⟨h1, h2⟩ := and_ok h
    obtain ⟨h2, h3⟩ := and_ok h2
    obtain ⟨h3, h4⟩ := and_ok h3
    rw [smO_ok h1, beq_eq' h2, smL_ok (fun a b => beq_eq') h3, beq_eq' h4]
  · cases h

/-! ### All orders end as one -/
/-- The blocks that a value names, ahead of others. -/
noncomputable def refsL (ih : AV → List Nat → List Nat) (l : List AV) : List Nat → List Nat := List.rec (fun r => r) (fun v _ k r => ih v (k r)) l
noncomputable def refs1 (ih : AV → List Nat → List Nat) : AV → List Nat → List Nat
  | .ptr (some a), r => a.1 :: r
  | .sl (some a) _ _, r => a.1 :: r
  | .map (some b), r => b :: r
  | .ifc _ v, r => ih v r
  | .agg l, r => refsL ih l r
  | .tup l, r => refsL ih l r
  | .fn _ a b, r => refsL ih a (refsL ih b r)
  | _, r => r
noncomputable def refs (n : Nat) : AV → List Nat → List Nat := Nat.rec (fun _ r => r) (fun _ ih => refs1 ih) n
noncomputable def refsE (l : List Ent) : List Nat → List Nat := List.rec (fun r => r) (fun e _ k r => refs 8 e.key (refs 8 e.val (k r))) l
noncomputable def refsB : Blk → List Nat → List Nat
  | .cells c _ _, r => refsL (refs 8) c r
  | .map es _, r => refsE es r
  | _, r => r
noncomputable def forceL (l : List Nat) : (List Nat → Bool) → Bool := List.rec (fun k => k []) (fun x _ ih k => forceN x fun x => ih fun l => k (x :: l)) l
theorem forceL_eq : ∀ (l : List Nat) (k : List Nat → Bool), forceL l k = k l
  | [], _ => rfl
  | x :: l, k => by
    show forceN x (fun x => forceL l fun l => k (x :: l)) = _
    rw [forceN_eq, forceL_eq l]
/-- What the blocks of the list name, ahead of others. -/
noncomputable def oneStep (t : Trie Blk) (l : List Nat) : List Nat → (List Nat → Bool) → Bool :=
  List.rec (fun r k => k r) (fun b _ ih r k => Trie.getK (bits b) t (ih r k) fun blk => forceL (refsB blk r) fun r => ih r k) l
theorem oneStep_ok (t : Trie Blk) : ∀ (l : List Nat) {r : List Nat} {k : List Nat → Bool}, oneStep t l r k = true → ∃ m, k m = true
  | [], r, k, h => ⟨r, h⟩
  | b :: l, r, k, h => by
    have h : Trie.getK (bits b) t (oneStep t l r k) (fun blk => forceL (refsB blk r) fun r => oneStep t l r k) = true := h
    rw [Trie.getK_eq] at h
    split at h
    · rw [forceL_eq] at h; exact oneStep_ok t l h
    · exact oneStep_ok t l h
noncomputable def appN (l : List Nat) : List Nat → List Nat := List.rec (fun r => r) (fun x _ k r => x :: k r) l
/-- All blocks that can be come to from those of the list, in so many steps. -/
noncomputable def roots (t : Trie Blk) (n : Nat) : List Nat → List Nat → (List Nat → Bool) → Bool :=
  Nat.rec (fun l all k => k (appN l all)) (fun _ ih l all k => oneStep t l [] fun m => ih m (appN l all) k) n
theorem roots_ok (t : Trie Blk) : ∀ (n : Nat) {l all : List Nat} {k : List Nat → Bool}, roots t n l all k = true → ∃ m, k m = true
  | 0, l, all, k, h => ⟨_, h⟩
  | n + 1, l, all, k, h => by
    obtain ⟨m, h⟩ := oneStep_ok t l (show oneStep t l [] (fun m => roots t n m (appN l all) k) = true from h)
    exact roots_ok t n h
noncomputable def hasK (l : List Nat) (b : Nat) : Bool := List.rec false (fun x _ ih => cond (Nat.beq b x) true ih) l

/-- The memory without the blocks, i from block b on, that are not in the list. -/
noncomputable def cleanK (keep : List Nat) (b : Nat) (i : Nat) : Trie Blk → (Trie Blk → Bool) → Bool :=
  Nat.rec (fun t k => k t) (fun j ih t k => cond (hasK keep (b + j)) (ih t k) (Trie.putK (bits (b + j)) t none fun t => ih t k)) i
theorem cleanK_ok (keep : List Nat) (b : Nat) : ∀ (i : Nat) {t : Trie Blk} {k : Trie Blk → Bool}, cleanK keep b i t k = true → ∃ t' : Trie Blk, (∀ c x, t'.get c = some x → t.get c = some x) ∧ k t' = true
  | 0, t, k, h => ⟨t, fun _ _ h => h, h⟩
  | i + 1, t, k, h => by
    have h : cond (hasK keep (b + i)) (cleanK keep b i t k) (Trie.putK (bits (b + i)) t none fun t => cleanK keep b i t k) = true := h
    cases hk : hasK keep (b + i) with
    | true =>
      rw [hk] at h
      exact cleanK_ok keep b i h
    | false =>
      rw [hk, cond_false, Trie.putK_eq] at h
      obtain ⟨t', h1, h2⟩ := cleanK_ok keep b i h
      refine ⟨t', fun c x hx => ?_, h2⟩
      have := h1 c x hx
      have e := Trie.get_set t (b + i) none c
      unfold Trie.set at e
      rw [e] at this
      by_cases hc : c = b + i
      · rw [if_pos hc] at this; cases this
      · rwa [if_neg hc] at this

/-- Whether all that the first memory holds, the second holds as well. -/
noncomputable def smOB (a b : Option Blk) : Bool := Option.casesOn a true fun x => Option.casesOn b false fun y => smB 64 x y
theorem smOB_ok {a b : Option Blk} (h : smOB a b = true) : ∀ x, a = some x → b = some x := fun x hx => by
  subst hx
  cases b with
  | none => cases h
  | some y => rw [smB_ok (show smB 64 x y = true from h)]
noncomputable def subT (t : Trie Blk) : Trie Blk → Bool :=
  Trie.rec (fun _ => true) (fun v _ _ ihl ihr u => Trie.casesOn u false fun v' l' r' => cond (smOB v v') (cond (ihl l') (ihr r') false) false) t
theorem subT_ok : ∀ {t u : Trie Blk}, subT t u = true → ∀ p x, t.at' p = some x → u.at' p = some x
  | .leaf, _, _, p, x, hx => by cases p <;> cases hx
  | .node v l r, .leaf, h, _, _, _ => by cases h
  | .node v l r, .node v' l' r', h, p, x, hx => by
    obtain ⟨h1, h2⟩ := cond_true_of (show cond (smOB v v') (cond (subT l l') (subT r r') false) false = true from h)
    obtain ⟨h2, h3⟩ := cond_true_of h2
    match p, hx with
    | [], hx => exact smOB_ok h1 x hx
    | false :: p, hx => exact subT_ok h2 p x hx
    | true :: p, hx => exact subT_ok h3 p x hx

/-- A function in one order, if all orders end as this one does. -/
noncomputable def joinF (first all : CF) : CF := ⟨fun args H k => cond (isMark args) false (first.go args H fun v H1 => forceL (refs 8 v []) fun l => roots H1.t 3 l [] fun keep => cleanK keep H.next (H1.next - H.next) H1.t fun t =>
  cond (all.go args H fun u H2 => cond (smV 64 v u) (cond (Nat.ble H2.next H1.next) (subT t H2.t) false) false) (k v ⟨H1.next, t⟩) false)⟩

theorem Goes.wide {φ ψ : Phi} {G G' : Nat → Option Blk} {n n' m : Nat} {w w' : World} (h : Goes φ G n w ψ G' n' w') (hm : n' ≤ m) : Goes φ G n w ψ G' m w' :=
  { h with new := fun b hb => ⟨(h.new b hb).1, Nat.lt_of_lt_of_le (h.new b hb).2 hm⟩ }

theorem joinF_good {K : Tab} {f : FuncId} {first all : CF} (h1 : first.Tame) (h2 : all.Good K false f) : (joinF first all).Good K true f := fun args H k h => by
  obtain ⟨hnm, h⟩ := cond_false_of (show cond (isMark args) false _ = true from h)
  obtain ⟨v, H1, h⟩ := h1 args H _ h
  rw [forceL_eq] at h
  obtain ⟨keep, h⟩ := roots_ok H1.t 3 h
  obtain ⟨t, ht, h⟩ := cleanK_ok keep H.next _ h
  obtain ⟨ha, hk⟩ := cond_true_of h
  obtain ⟨hen, O, g1, g2, _⟩ := h2 args H _ ha
  have g1 : ∀ u H2, O u H2 → u = v ∧ H2.next ≤ H1.next ∧ ∀ b x, t.get b = some x → H2.get b = some x := fun u H2 hO => by
    obtain ⟨e1, e2⟩ := cond_true_of (g1 u H2 hO)
    obtain ⟨e2, e3⟩ := cond_true_of e2
    exact ⟨(smV_ok _ _ _ e1).symm, ble_le e2, fun b x hx => subT_ok e3 _ x hx⟩
  refine ⟨hen, fun u I => u = v ∧ I = ⟨H1.next, t⟩, fun u I e => by rw [e.1, e.2]; exact hk, ⟨⟨_, _, rfl, rfl⟩, fun u I e => ?_, fun φ xs w hx hg hw hfr R hR => ?_⟩, fun _ => ⟨_, _, fun _ _ e => e⟩⟩
  · obtain ⟨u, H2, hO⟩ := g2.1
    rw [e.2]
    exact Nat.le_trans (g2.2.1 u H2 hO) (g1 u H2 hO).2.1
  · refine g2.2.2 φ xs w hx hg hw (fun b hb ⟨u, H2, hO, hlt⟩ => hfr b hb ⟨_, _, ⟨rfl, rfl⟩, Nat.lt_of_lt_of_le hlt (g1 u H2 hO).2.1⟩) R fun u H2 ψ x w' hO hgo hx => ?_
    obtain ⟨rfl, hle, hs⟩ := g1 u H2 hO
    exact hR u _ ψ x w' ⟨rfl, rfl⟩ ((hgo.drop (G'' := (AH.mk H1.next t).get) hs).wide hle) hx

/-! ### All functions, some of them joined -/
theorem CF.Good.any {K : Tab} {f : FuncId} {c : CF} (h : c.Good K true f) : c.Good K false f := fun args H k hk => by
  obtain ⟨e, O, h1, h2, _⟩ := h args H k hk
  exact ⟨e, O, h1, h2, fun e => by cases e⟩
theorem CC.Good.any {K : Tab} {n : Nat} {W : Post → Act → World → Prop} {c : CC} (h : CC.Good K true n W c) : CC.Good K false n W c := fun T H k hk => by
  obtain ⟨O, h1, h2, _⟩ := h T H k hk
  exact ⟨O, h1, h2, fun e => by cases e⟩

noncomputable def cfJ (K : Tab) (lf : Nat) (dr : Nat → (FuncId → CF) → List Oper → CC) (call : FuncId → CF) (f : FuncId) : CF :=
  joinF (cfF K lf dr call f) (cf K false lf (fun n _ ops => dr n call ops) call f)
theorem cfJ_good {K : Tab} (hK : K.Ok) (hN : ∀ (f : Nat) fn, K.P.funcs[f]? = some fn → (fn.name == "runtime.NumGoroutine") = false) {lf : Nat} {dr : Nat → (FuncId → CF) → List Oper → CC}
    (hdr : DrGood K true dr) {call : FuncId → CF} (hf : ∀ f, (call f).Good K true f) (f : FuncId) : (cfJ K lf dr call f).Good K true f :=
  joinF_good (cfF_tame hK hdr hf f) (cf_good hK hN (fun n _ _ ops => (hdr n call hf ops).any) (fun g => (hf g).any) f)

/-- All functions, to a depth of calls; those of the list are joined. -/
noncomputable def denJ (K : Tab) (js : List Nat) (lf : Nat) (dr : Nat → (FuncId → CF) → List Oper → CC) (d : Nat) : FuncId → CF :=
  Nat.rec (fun _ => CF.none) (fun _ ih f => match js.any (Nat.beq f) with
    | true => cfJ K lf dr ih f
    | false => cf K true lf dr ih f) d
theorem denJ_good {K : Tab} (hK : K.Ok) (hN : ∀ (f : Nat) fn, K.P.funcs[f]? = some fn → (fn.name == "runtime.NumGoroutine") = false) {js : List Nat} {lf : Nat} {dr : Nat → (FuncId → CF) → List Oper → CC}
    (hdr : DrGood K true dr) : ∀ (d : Nat) (f : FuncId), (denJ K js lf dr d f).Good K true f
  | 0, f => CF.none_good K true f
  | d + 1, f => by
    have ih := denJ_good hK hN (js := js) (lf := lf) hdr d
    show CF.Good K true f (match js.any (Nat.beq f) with
      | true => cfJ K lf dr (denJ K js lf dr d) f
      | false => cf K true lf dr (denJ K js lf dr d) f)
    cases js.any (Nat.beq f) with
    | true => exact cfJ_good hK hN hdr ih f
    | false => exact cf_good hK hN hdr ih f

theorem calls_ofJ {K : Tab} (hK : K.Ok) (hN : ∀ (f : Nat) fn, K.P.funcs[f]? = some fn → (fn.name == "runtime.NumGoroutine") = false) {js : List Nat} {lf d : Nat} {f : FuncId} {args : List AV} {H : AH} {k : AV → AH → Bool}
    (h : (denJ K js lf (fun n call ops => drawC K n call ops) d f).go args H k = true) {φ : Phi} {xs : List Value} {w : World} (hx : concs φ args = some xs) (hg : Glob K.ng φ) (hw : WR φ H.get w)
    (hfr : ∀ b, H.next ≤ b → φ b = none) (hro : ∀ b blk, H.get b = some blk → blk.mine = false) (hm : isMark args = false := by rfl) :
    Calls K.P f xs.toArray w fun e w' => ∃ v H' ψ x, e = .returned x ∧ k v H' = true ∧ conc ψ v = some x ∧ Goes φ H.get H.next w ψ H'.get H'.next w' ∧ Calm w w' := by
  obtain ⟨_, O, h1, h2, _⟩ := denJ_good hK hN (drawC_good hK) d f args H k h
  exact (Runs.calls hm).1 (h2.2.2 φ xs w hx hg hw (fun b hb _ => hfr b hb) _ fun v H' ψ x w' hO hgo hcx => ⟨v, H', ψ, x, rfl, h1 v H' hO, hcx, hgo, hgo.calm hro⟩)

/-- A call over no memory that the run has ended with 'true'; functions joined. -/
theorem true_ofJ {K : Tab} (hK : K.Ok) (hng : K.ng = 0) (hN : ∀ (f : Nat) fn, K.P.funcs[f]? = some fn → (fn.name == "runtime.NumGoroutine") = false) {js : List Nat} {lf d : Nat} {f : FuncId} {args : List AV}
    (h : (denJ K js lf (fun n call ops => drawC K n call ops) d f).go args .empty isTrue = true) {xs : List Value} (hx : concs (fun _ => none) args = some xs) (w : World) (hm : isMark args = false := by rfl) :
    Calls K.P f xs.toArray w fun e w' => e = .returned (.bool true) ∧ Calm w w' := by
  have hE := AH.empty_get
  refine (calls_ofJ hK hN h hx (fun g hgl => by omega) ⟨fun b blk L _ hL => (by cases hL), fun b b' blk blk' L L' _ _ hL _ _ => (by cases hL)⟩ (fun _ _ => rfl) (fun b blk hb => (by rw [hE] at hb; cases hb)) hm).mono fun e w' hh => ?_
  obtain ⟨v, H', ψ, x, rfl, hk, hcx, _, hc⟩ := hh
  refine ⟨?_, hc⟩
  match v, hk with
  | .bool b, hk =>
    have hb : b = true := hk
    subst hb
    simp only [conc] at hcx
    cases hcx
    rfl
end GoX
