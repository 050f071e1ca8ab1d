/-
  ABSTRACT MEMORY: values, tries, heaps, as an executor of the model's programs keeps them; and what they stand for in the model's memory. No program is named here.
-/
import Derived.Laws.Sem
import Derived.Orders
namespace GoX
open Go

/-- The capacity of a slice: known; or that of a row grown by append (what is left of it from 'lo' elements on); or of the empty end of such a row. -/
inductive Cap where
  | exact (n : Nat)
  | opened (lo : Nat)
  | edge (lo old : Nat)
  deriving Inhabited

inductive AV where
  | bool (b : Bool)
  | int (k : IntKind) (n : Int)
  | str (s : List UInt8)
  | ptr (a : Option (Nat × Nat))
  | sl (a : Option (Nat × Nat)) (len : Nat) (cap : Cap)
  | map (r : Option Nat)
  | fn (f : Fn) (first captured : List AV)
  | nilFn
  | ifc (t : TypeId) (v : AV)
  | nilIfc
  | agg (l : List AV)
  | tup (l : List AV)
  | opq (v : Value)
  | yld (b : Nat)
  | mark (b : Nat)
  deriving Inhabited

/-! ### Tries, by paths of bits -/
inductive Trie (α : Type) where
  | leaf
  | node (v : Option α) (l r : Trie α)

/-- The bits of a number, its own bijection with lists. -/
def bitsF : Nat → Nat → List Bool := Nat.rec (fun _ => []) (fun _ ih n => Nat.casesOn n [] fun m => cond (Nat.beq (Nat.mod m 2) 0) (false :: ih (Nat.div m 2)) (true :: ih (Nat.div m 2)))
def bits (n : Nat) : List Bool := bitsF n n
def unbits : List Bool → Nat
  | [] => 0
  | false :: l => 2 * unbits l + 1
  | true :: l => 2 * unbits l + 2

theorem unbits_bitsF : ∀ (f n : Nat), n ≤ f → unbits (bitsF f n) = n := by
  intro f
  induction f with
  | zero => intro n h; obtain rfl : n = 0 := by omega
            rfl
  | succ f ih =>
    intro n h
    cases n with
    | zero => rfl
    | succ m =>
      have hd : m.div 2 ≤ f := by show m / 2 ≤ f; omega
      have e : bitsF (f + 1) (m + 1) = cond (Nat.beq (Nat.mod m 2) 0) (false :: bitsF f (Nat.div m 2)) (true :: bitsF f (Nat.div m 2)) := rfl
      rw [e]
      have hm : Nat.mod m 2 = m % 2 := rfl
      have hq : Nat.div m 2 = m / 2 := rfl
      have : m % 2 = 0 ∨ m % 2 = 1 := by omega
      rcases this with h0 | h0
      · rw [hm, h0]
        show 2 * unbits (bitsF f (m.div 2)) + 1 = m + 1
        rw [ih _ hd, hq]; omega
      · rw [hm, h0]
        show 2 * unbits (bitsF f (m.div 2)) + 2 = m + 1
        rw [ih _ hd, hq]; omega
theorem bits_inj {m n : Nat} (h : bits m = bits n) : m = n := by
  have hm := unbits_bitsF m m (Nat.le_refl _)
  have hn := unbits_bitsF n n (Nat.le_refl _)
  have : bitsF m m = bitsF n n := h
  rw [← hm, ← hn, this]

namespace Trie
variable {α β : Type}
def at' : Trie α → List Bool → Option α
  | .leaf, _ => none
  | .node v _ _, [] => v
  | .node _ l _, false :: p => l.at' p
  | .node _ _ r, true :: p => r.at' p
def val : Trie α → Option α
  | .leaf => none
  | .node v _ _ => v
def lft : Trie α → Trie α
  | .leaf => .leaf
  | .node _ l _ => l
def rgt : Trie α → Trie α
  | .leaf => .leaf
  | .node _ _ r => r
def put : List Bool → Trie α → Option α → Trie α
  | [], t, x => .node x t.lft t.rgt
  | false :: p, t, x => .node t.val (put p t.lft x) t.rgt
  | true :: p, t, x => .node t.val t.lft (put p t.rgt x)
def get (t : Trie α) (n : Nat) : Option α := t.at' (bits n)
def set (t : Trie α) (n : Nat) (x : Option α) : Trie α := put (bits n) t x

/-- What stands at a path is handed on. -/
noncomputable def getK (p : List Bool) : Trie α → β → (α → β) → β :=
  List.rec (fun t bad k => Trie.casesOn t bad fun v _ _ => Option.casesOn v bad k)
    (fun b _ ih t bad k => Trie.casesOn t bad fun _ l r => Bool.casesOn b (ih l bad k) (ih r bad k)) p
/-- The trie with x at a path is handed on, built. -/
noncomputable def putK (p : List Bool) : Trie α → Option α → (Trie α → β) → β :=
  List.rec (fun t x k => Trie.casesOn t (k (.node x .leaf .leaf)) fun _ l r => k (.node x l r))
    (fun b _ ih t x k => Trie.casesOn t
      (Bool.casesOn b (ih .leaf x fun l => k (.node none l .leaf)) (ih .leaf x fun r => k (.node none .leaf r)))
      fun v l r => Bool.casesOn b (ih l x fun l => k (.node v l r)) (ih r x fun r => k (.node v l r))) p

theorem getK_eq (p : List Bool) : ∀ (t : Trie α) (bad : β) (k : α → β), getK p t bad k = match t.at' p with | some v => k v | none => bad := by
  induction p with
  | nil => intro t bad k; cases t with
    | leaf => rfl
    | node v l r => cases v <;> rfl
  | cons b p ih =>
    intro t bad k
    cases t with
    | leaf => cases b <;> rfl
    | node v l r => cases b
                    · exact ih l bad k
                    · exact ih r bad k
theorem putK_eq (p : List Bool) : ∀ (t : Trie α) (x : Option α) (k : Trie α → β), putK p t x k = k (put p t x) := by
  induction p with
  | nil => intro t x k; cases t <;> rfl
  | cons b p ih =>
    intro t x k
    cases t <;> cases b <;> (refine (ih _ _ _).trans ?_; rfl)

theorem at_put : ∀ (p : List Bool) (t : Trie α) (x : Option α) (q : List Bool), (put p t x).at' q = if q = p then x else t.at' q := by
  intro p
  induction p with
  | nil =>
    intro t x q
    cases q with
    | nil => simp [put, at']
    | cons b q => cases b <;> cases t <;> simp [put, at', lft, rgt]
  | cons b p ih =>
    intro t x q
    cases b <;> cases q with
    | nil => cases t <;> simp [put, at', val]
    | cons c q => cases c <;> cases t <;> simp [put, at', lft, rgt, ih]

theorem get_set (t : Trie α) (n : Nat) (x : Option α) (m : Nat) : (t.set n x).get m = if m = n then x else t.get m := by
  unfold get set
  rw [at_put]
  by_cases h : m = n
  · simp [h]
  · rw [if_neg h, if_neg (fun e => h (bits_inj e))]

def ofList : List α → Nat → Trie α → Trie α
  | [], _, t => t
  | x :: l, i, t => ofList l (i + 1) (t.set i (some x))
noncomputable def ofListK (l : List α) : Nat → Trie α → (Trie α → β) → β :=
  List.rec (fun _ t k => k t) (fun x _ ih i t k => putK (bits i) t (some x) fun t => ih (i + 1) t k) l
theorem ofListK_eq : ∀ (l : List α) (i : Nat) (t : Trie α) (k : Trie α → β), ofListK l i t k = k (ofList l i t) := by
  intro l
  induction l with
  | nil => intro i t k; rfl
  | cons x l ih =>
    intro i t k
    show putK (bits i) t (some x) (fun t => ofListK l (i + 1) t k) = _
    rw [putK_eq, ih]; rfl

theorem get_ofList : ∀ (l : List α) (i : Nat) (t : Trie α) (m : Nat), (ofList l i t).get m = if m < i then t.get m else if m < i + l.length then l[m - i]? else t.get m := by
  intro l
  induction l with
  | nil =>
    intro i t m
    simp only [ofList, List.length_nil, Nat.add_zero]
    by_cases h : m < i <;> simp [h]
  | cons x l ih =>
    intro i t m
    simp only [ofList, ih, get_set, List.length_cons]
    by_cases h1 : m < i
    · simp [h1, show m < i + 1 by omega, show ¬ m = i by omega]
    · by_cases h2 : m = i
      · subst h2; simp
      · obtain ⟨d, hd⟩ : ∃ d, m = i + 1 + d := ⟨m - (i + 1), by omega⟩
        subst hd
        have e1 : i + 1 + d - (i + 1) = d := by omega
        have e2 : i + 1 + d - i = d + 1 := by omega
        simp only [e1, e2, List.getElem?_cons_succ]
        rw [if_neg (show ¬ (i + 1 + d < i + 1) by omega), if_neg (show ¬ (i + 1 + d < i) by omega), if_neg (show ¬ (i + 1 + d = i) by omega)]
        by_cases h3 : d < l.length
        · rw [if_pos (show i + 1 + d < i + 1 + l.length by omega), if_pos (show i + 1 + d < i + (l.length + 1) by omega)]
        · rw [if_neg (show ¬ i + 1 + d < i + 1 + l.length by omega), if_neg (show ¬ i + 1 + d < i + (l.length + 1) by omega)]
theorem get_leaf (m : Nat) : (Trie.leaf : Trie α).get m = none := by cases h : bits m <;> simp [get, at']
end Trie

structure Ent where
  key : AV
  val : AV
  born : Nat
  deriving Inhabited

/-- A block of memory. Cells: their kind is 0: all of the row is known, and may be written; 1: known, and never written; s + 2: what is known of a row, grown by append, of elements of s cells. -/
inductive Blk where
  | cells (c : List AV) (elem : TypeId) (kind : Nat)
  | map (es : List Ent) (clock : Nat)
  | strIter (s : List UInt8) (pos : Nat)
  | mapIter (m : Option Nat) (since : Nat) (seen : List Nat) (stepped : Nat)
  | loop (T : Trie AV) (n : Nat) (ps : List Nat) (x y : Code) (busy : Bool)
  | dfr
  deriving Inhabited

structure AH where
  next : Nat
  t : Trie Blk

abbrev AT := Trie AV

def AH.get (H : AH) (b : Nat) : Option Blk := H.t.get b

/-! ### What hands on forced: for the kernel's sake -/
section
variable {β : Type}
def forceN (n : Nat) (k : Nat → β) : β := Nat.casesOn n (k 0) fun m => k (m + 1)
def forceI (n : Int) (k : Int → β) : β := Int.casesOn n (fun m => forceN m fun m => k (.ofNat m)) (fun m => forceN m fun m => k (.negSucc m))
def forceB (b : Bool) (k : Bool → β) : β := Bool.casesOn b (k false) (k true)
noncomputable def forceU (s : List UInt8) : (List UInt8 → β) → β := List.rec (fun k => k []) (fun c _ ih k => forceN c.toNat fun c => ih fun s => k (UInt8.ofNat c :: s)) s
def forceA (a : Option (Nat × Nat)) (k : Option (Nat × Nat) → β) : β := Option.casesOn a (k none) fun a => forceN a.1 fun b => forceN a.2 fun o => k (some (b, o))
def forceC (c : Cap) (k : Cap → β) : β := Cap.casesOn c (fun n => forceN n fun n => k (.exact n)) (fun n => forceN n fun n => k (.opened n)) (fun n m => forceN n fun n => forceN m fun m => k (.edge n m))

theorem forceN_eq (n : Nat) (k : Nat → β) : forceN n k = k n := by cases n <;> rfl
theorem forceI_eq (n : Int) (k : Int → β) : forceI n k = k n := by cases n <;> simp [forceI, forceN_eq]
theorem forceB_eq (b : Bool) (k : Bool → β) : forceB b k = k b := by cases b <;> rfl
theorem forceU_eq (s : List UInt8) : ∀ (k : List UInt8 → β), forceU s k = k s := by
  induction s with
  | nil => intro k; rfl
  | cons c s ih =>
    intro k
    show forceN c.toNat (fun c => forceU s fun s => k (UInt8.ofNat c :: s)) = _
    simp [forceN_eq, ih]
theorem forceA_eq (a : Option (Nat × Nat)) (k : Option (Nat × Nat) → β) : forceA a k = k a := by
  rcases a with _ | ⟨b, o⟩ <;> simp [forceA, forceN_eq]
theorem forceC_eq (c : Cap) (k : Cap → β) : forceC c k = k c := by cases c <;> simp [forceC, forceN_eq]
end

/-! ### What a value stands for -/
/-- Where a block lies: which block of the model's, from which cell on, and for how many elements there is room. -/
structure Loc where
  b : Nat
  o : Nat
  k : Nat

abbrev Phi := Nat → Option Loc

def concP (φ : Phi) : Option (Nat × Nat) → Option (Option Addr)
  | none => some none
  | some (b, o) => match φ b with
    | some L => some (some ⟨L.b, L.o + o, none⟩)
    | none => none

def concSl (φ : Phi) (a : Option (Nat × Nat)) (n : Nat) : Cap → Option Value
  | .exact c => match concP φ a with
    | some a => some (.slice a n c)
    | none => none
  | .opened lo => match a with
    | some (b, o) => match φ b with
      | some L => if n + lo ≤ L.k then some (.slice (some ⟨L.b, L.o + o, none⟩) n (L.k - lo)) else none
      | none => none
    | none => none
  | .edge lo old => match a with
    | some (b, o) => match φ b with
      | some L => if n = 0 ∧ lo ≤ L.k then some (.slice (some (if L.k = lo then ⟨L.b, L.o + old, none⟩ else ⟨L.b, L.o + o, none⟩)) 0 (L.k - lo)) else none
      | none => none
    | none => none

mutual
def conc (φ : Phi) : AV → Option Value
  | .bool b => some (.bool b)
  | .int k n => some (.int k n)
  | .str s => some (.string ⟨s.toArray⟩)
  | .ptr a => match concP φ a with
    | some a => some (.pointer a)
    | none => none
  | .sl a n c => concSl φ a n c
  | .map none => some (.map none)
  | .map (some r) => match φ r with
    | some L => some (.map (some L.b))
    | none => none
  | .fn f a b => match concs φ a, concs φ b with
    | some a, some b => some (.func f a.toArray b.toArray)
    | _, _ => none
  | .nilFn => some .nilFunc
  | .ifc t v => match conc φ v with
    | some v => some (.iface t v)
    | none => none
  | .nilIfc => some .nilIface
  | .agg l => match concs φ l with
    | some l => some (.agg l.toArray)
    | none => none
  | .tup l => match concs φ l with
    | some l => some (.tuple l.toArray)
    | none => none
  | .opq v => if v.oneCell' then some v else none
  | .yld b => match φ b with
    | some L => some (.func (.yield L.b) #[] #[])
    | none => none
  | .mark _ => some (.tuple #[])
def concs (φ : Phi) : List AV → Option (List Value)
  | [] => some []
  | v :: l => match conc φ v, concs φ l with
    | some v, some l => some (v :: l)
    | _, _ => none
end

def Phi.le (φ ψ : Phi) : Prop := ∀ b L, φ b = some L → ψ b = some L
theorem Phi.le_refl (φ : Phi) : φ.le φ := fun _ _ h => h
theorem Phi.le_trans {φ ψ χ : Phi} (h : φ.le ψ) (h' : ψ.le χ) : φ.le χ := fun b L e => h' b L (h b L e)

theorem concP_mono {φ ψ : Phi} (h : φ.le ψ) : ∀ {a r}, concP φ a = some r → concP ψ a = some r
  | none, r, e => e
  | some (b, o), r, e => by
    simp only [concP] at e ⊢
    cases hb : φ b with
    | none => rw [hb] at e; cases e
    | some L => rw [hb] at e; rw [h b L hb]; exact e

theorem concSl_mono {φ ψ : Phi} (h : φ.le ψ) {a n c r} (e : concSl φ a n c = some r) : concSl ψ a n c = some r := by
  cases c with
  | exact c =>
    simp only [concSl] at e ⊢
    cases hp : concP φ a with
    | none => rw [hp] at e; cases e
    | some q => rw [hp] at e; rw [concP_mono h hp]; exact e
  | opened lo =>
    rcases a with _ | ⟨b, o⟩
    · exact e
    · simp only [concSl] at e ⊢
      cases hb : φ b with
      | none => rw [hb] at e; cases e
      | some L => rw [hb] at e; rw [h b L hb]; exact e
  | edge lo old =>
    rcases a with _ | ⟨b, o⟩
    · exact e
    · simp only [concSl] at e ⊢
      cases hb : φ b with
      | none => rw [hb] at e; cases e
      | some L => rw [hb] at e; rw [h b L hb]; exact e

mutual
theorem conc_mono {φ ψ : Phi} (h : φ.le ψ) : ∀ (v : AV) {r}, conc φ v = some r → conc ψ v = some r
  | .bool _, _, e => by simpa only [conc] using e
  | .int _ _, _, e => by simpa only [conc] using e
  | .str _, _, e => by simpa only [conc] using e
  | .ptr a, r, e => by
    simp only [conc] at e ⊢
    cases hp : concP φ a with
    | none => rw [hp] at e; cases e
    | some q => rw [hp] at e; rw [concP_mono h hp]; exact e
  | .sl a n c, r, e => by
    simp only [conc] at e ⊢
    exact concSl_mono h e
  | .map none, _, e => by simpa only [conc] using e
  | .map (some b), r, e => by
    simp only [conc] at e ⊢
    cases hb : φ b with
    | none => rw [hb] at e; cases e
    | some L => rw [hb] at e; rw [h b L hb]; exact e
  | .fn f a b, r, e => by
    simp only [conc] at e ⊢
    cases ha : concs φ a with
    | none => rw [ha] at e; cases e
    | some x =>
      cases hb : concs φ b with
      | none => rw [ha, hb] at e; cases e
      | some y => rw [ha, hb] at e; rw [concs_mono h a ha, concs_mono h b hb]; exact e
  | .nilFn, _, e => by simpa only [conc] using e
  | .ifc t v, r, e => by
    simp only [conc] at e ⊢
    cases hv : conc φ v with
    | none => rw [hv] at e; cases e
    | some x => rw [hv] at e; rw [conc_mono h v hv]; exact e
  | .nilIfc, _, e => by simpa only [conc] using e
  | .agg l, r, e => by
    simp only [conc] at e ⊢
    cases ha : concs φ l with
    | none => rw [ha] at e; cases e
    | some x => rw [ha] at e; rw [concs_mono h l ha]; exact e
  | .tup l, r, e => by
    simp only [conc] at e ⊢
    cases ha : concs φ l with
    | none => rw [ha] at e; cases e
    | some x => rw [ha] at e; rw [concs_mono h l ha]; exact e
  | .opq _, _, e => by simpa only [conc] using e
  | .yld b, r, e => by
    simp only [conc] at e ⊢
    cases hb : φ b with
    | none => rw [hb] at e; cases e
    | some L => rw [hb] at e; rw [h b L hb]; exact e
  | .mark _, _, e => by simpa only [conc] using e
theorem concs_mono {φ ψ : Phi} (h : φ.le ψ) : ∀ (l : List AV) {r}, concs φ l = some r → concs ψ l = some r
  | [], _, e => by simpa only [concs] using e
  | v :: l, r, e => by
    simp only [concs] at e ⊢
    cases hv : conc φ v with
    | none => rw [hv] at e; cases e
    | some x =>
      cases hl : concs φ l with
      | none => rw [hv, hl] at e; cases e
      | some y => rw [hv, hl] at e; rw [conc_mono h v hv, concs_mono h l hl]; exact e
end

theorem concs_cons {φ : Phi} {v : AV} {l : List AV} {r : List Value} (h : concs φ (v :: l) = some r) :
    ∃ x y, conc φ v = some x ∧ concs φ l = some y ∧ r = x :: y := by
  simp only [concs] at h
  cases hv : conc φ v with
  | none => rw [hv] at h; cases h
  | some x =>
    cases hl : concs φ l with
    | none => rw [hv, hl] at h; cases h
    | some y => rw [hv, hl] at h; cases h; exact ⟨x, y, rfl, rfl, rfl⟩
theorem concs_cons_mk {φ : Phi} {v : AV} {l : List AV} {x : Value} {y : List Value} (hv : conc φ v = some x) (hl : concs φ l = some y) : concs φ (v :: l) = some (x :: y) := by
  simp only [concs, hv, hl]
theorem concs_nil {φ : Phi} {r : List Value} (h : concs φ [] = some r) : r = [] := by simpa [concs] using h.symm
theorem concs_length {φ : Phi} : ∀ {l : List AV} {r : List Value}, concs φ l = some r → r.length = l.length
  | [], r, h => by rw [concs_nil h]; rfl
  | v :: l, r, h => by
    obtain ⟨x, y, _, hl, rfl⟩ := concs_cons h
    simp [concs_length hl]
theorem concs_get {φ : Phi} : ∀ {l : List AV} {r : List Value} (i : Nat) {v : AV}, concs φ l = some r → l[i]? = some v → ∃ x, r[i]? = some x ∧ conc φ v = some x
  | [], _, i, v, _, hv => by simp at hv
  | u :: l, r, i, v, h, hv => by
    obtain ⟨x, y, hx, hl, rfl⟩ := concs_cons h
    cases i with
    | zero => simp at hv; subst hv; exact ⟨x, by simp, hx⟩
    | succ i => simp at hv; simpa using concs_get i hl hv
theorem concs_append {φ : Phi} : ∀ {l m : List AV} {r s : List Value}, concs φ l = some r → concs φ m = some s → concs φ (l ++ m) = some (r ++ s)
  | [], m, r, s, h, h' => by rw [concs_nil h]; simpa using h'
  | v :: l, m, r, s, h, h' => by
    obtain ⟨x, y, hx, hl, rfl⟩ := concs_cons h
    exact concs_cons_mk hx (concs_append hl h')

theorem conc_agg {φ : Phi} {l : List AV} {r : Value} (h : conc φ (.agg l) = some r) : ∃ x, concs φ l = some x ∧ r = .agg x.toArray := by
  simp only [conc] at h
  cases hl : concs φ l with
  | none => rw [hl] at h; cases h
  | some x => rw [hl] at h; cases h; exact ⟨x, rfl, rfl⟩
theorem conc_agg_mk {φ : Phi} {l : List AV} {x : List Value} (h : concs φ l = some x) : conc φ (.agg l) = some (.agg x.toArray) := by simp only [conc, h]
theorem conc_tup {φ : Phi} {l : List AV} {r : Value} (h : conc φ (.tup l) = some r) : ∃ x, concs φ l = some x ∧ r = .tuple x.toArray := by
  simp only [conc] at h
  cases hl : concs φ l with
  | none => rw [hl] at h; cases h
  | some x => rw [hl] at h; cases h; exact ⟨x, rfl, rfl⟩
theorem conc_tup_mk {φ : Phi} {l : List AV} {x : List Value} (h : concs φ l = some x) : conc φ (.tup l) = some (.tuple x.toArray) := by simp only [conc, h]
theorem conc_ptr {φ : Phi} {b o : Nat} {r : Value} (h : conc φ (.ptr (some (b, o))) = some r) : ∃ L, φ b = some L ∧ r = .pointer (some ⟨L.b, L.o + o, none⟩) := by
  simp only [conc, concP] at h
  cases hb : φ b with
  | none => rw [hb] at h; cases h
  | some L => rw [hb] at h; cases h; exact ⟨L, rfl, rfl⟩
theorem conc_ptr_mk {φ : Phi} {b : Nat} {L : Loc} (o : Nat) (h : φ b = some L) : conc φ (.ptr (some (b, o))) = some (.pointer (some ⟨L.b, L.o + o, none⟩)) := by
  simp only [conc, concP, h]
theorem conc_map {φ : Phi} {b : Nat} {r : Value} (h : conc φ (.map (some b)) = some r) : ∃ L, φ b = some L ∧ r = .map (some L.b) := by
  simp only [conc] at h
  cases hb : φ b with
  | none => rw [hb] at h; cases h
  | some L => rw [hb] at h; cases h; exact ⟨L, rfl, rfl⟩
theorem conc_ifc {φ : Phi} {t : TypeId} {v : AV} {r : Value} (h : conc φ (.ifc t v) = some r) : ∃ x, conc φ v = some x ∧ r = .iface t x := by
  simp only [conc] at h
  cases hb : conc φ v with
  | none => rw [hb] at h; cases h
  | some L => rw [hb] at h; cases h; exact ⟨L, rfl, rfl⟩
theorem conc_fn {φ : Phi} {f : Fn} {a b : List AV} {r : Value} (h : conc φ (.fn f a b) = some r) : ∃ x y, concs φ a = some x ∧ concs φ b = some y ∧ r = .func f x.toArray y.toArray := by
  simp only [conc] at h
  cases ha : concs φ a with
  | none => rw [ha] at h; cases h
  | some x =>
    cases hb : concs φ b with
    | none => rw [ha, hb] at h; cases h
    | some y => rw [ha, hb] at h; cases h; exact ⟨x, y, rfl, rfl, rfl⟩

theorem conc_yld {φ : Phi} {b : Nat} {r : Value} (h : conc φ (.yld b) = some r) : ∃ L, φ b = some L ∧ r = .func (.yield L.b) #[] #[] := by
  simp only [conc] at h
  cases hb : φ b with
  | none => rw [hb] at h; cases h
  | some L => rw [hb] at h; cases h; exact ⟨L, rfl, rfl⟩

/-! ### What a heap stands for -/
def concEs (φ : Phi) : List Ent → Option (List MapEntry)
  | [] => some []
  | e :: l => match conc φ e.key, conc φ e.val, concEs φ l with
    | some k, some v, some l => some (⟨k, v, e.born⟩ :: l)
    | _, _, _ => none
theorem concEs_cons {φ : Phi} {e : Ent} {l : List Ent} {r : List MapEntry} (h : concEs φ (e :: l) = some r) :
    ∃ k v y, conc φ e.key = some k ∧ conc φ e.val = some v ∧ concEs φ l = some y ∧ r = ⟨k, v, e.born⟩ :: y := by
  simp only [concEs] at h
  cases hk : conc φ e.key with
  | none => rw [hk] at h; cases h
  | some k =>
    cases hv : conc φ e.val with
    | none => rw [hk, hv] at h; cases h
    | some v =>
      cases hl : concEs φ l with
      | none => rw [hk, hv, hl] at h; cases h
      | some y => rw [hk, hv, hl] at h; cases h; exact ⟨k, v, y, rfl, rfl, rfl, rfl⟩
theorem concEs_cons_mk {φ : Phi} {e : Ent} {l : List Ent} {k v : Value} {y : List MapEntry} (hk : conc φ e.key = some k) (hv : conc φ e.val = some v) (hl : concEs φ l = some y) :
    concEs φ (e :: l) = some (⟨k, v, e.born⟩ :: y) := by simp only [concEs, hk, hv, hl]
theorem concEs_mono {φ ψ : Phi} (h : φ.le ψ) : ∀ {l : List Ent} {r}, concEs φ l = some r → concEs ψ l = some r
  | [], _, e => e
  | x :: l, r, e => by
    obtain ⟨k, v, y, hk, hv, hl, rfl⟩ := concEs_cons e
    exact concEs_cons_mk (conc_mono h _ hk) (conc_mono h _ hv) (concEs_mono h hl)

/-- A block, as it lies. -/
def Real (φ : Phi) (L : Loc) (o : Obj) : Blk → Prop
  | .cells c e (s + 2) => ∃ cs pre post lo hi, concs φ c = some cs ∧ o = .cells (pre ++ (cs ++ post)).toArray e (lo, hi) ∧ pre.length = L.o ∧
      (cs ++ post).length = L.k * s ∧ (∀ i, i < (pre ++ (cs ++ post)).length → ¬ (lo ≤ i ∧ i < hi))
  | .cells c e _ => ∃ cs, concs φ c = some cs ∧ o = .cells cs.toArray e (0, 0) ∧ L.o = 0
  | .map es clock => ∃ xs, concEs φ es = some xs ∧ o = .map xs.toArray clock
  | .strIter s pos => o = .stringIter ⟨s.toArray⟩ pos ∧ L.o = 0
  | .mapIter none since seen stepped => o = .mapIter none since seen.toArray stepped ∧ L.o = 0
  | .mapIter (some r) since seen stepped => ∃ M, φ r = some M ∧ o = .mapIter (some M.b) since seen.toArray stepped ∧ L.o = 0
  | .loop T n ps x y busy => ∃ r : Loop, o = .loop r ∧ r.state = (if busy then .busy else .ready) ∧ r.pending = none ∧ r.params.toList = ps ∧ r.assign = x ∧ r.body = y ∧ r.tmps.size = n ∧
      (∀ i v, T.get i = some v → conc φ v = some (r.tmps.getD i undef)) ∧ T.get n = none
  | .dfr => o = .deferred (some [])

theorem Real.mono {φ ψ : Phi} (h : φ.le ψ) {L : Loc} {o : Obj} {b : Blk} (hr : Real φ L o b) : Real ψ L o b := by
  cases b with
  | cells c e k =>
    match k, hr with
    | s + 2, ⟨cs, pre, post, lo, hi, h1, h2⟩ => exact ⟨cs, pre, post, lo, hi, concs_mono h _ h1, h2⟩
    | 0, ⟨cs, h1, h2⟩ => exact ⟨cs, concs_mono h _ h1, h2⟩
    | 1, ⟨cs, h1, h2⟩ => exact ⟨cs, concs_mono h _ h1, h2⟩
  | map es clock => obtain ⟨xs, h1, h2⟩ := hr; exact ⟨xs, concEs_mono h h1, h2⟩
  | strIter s pos => exact hr
  | mapIter m since seen stepped =>
    cases m with
    | none => exact hr
    | some r => obtain ⟨M, h1, h2⟩ := hr; exact ⟨M, h _ _ h1, h2⟩
  | loop T n ps x y busy => obtain ⟨r, h1, h2, h3, h4, h5, h6, h7, h8, h9⟩ := hr; exact ⟨r, h1, h2, h3, h4, h5, h6, h7, fun i v hv => conc_mono h v (h8 i v hv), h9⟩
  | dfr => exact hr

/-- A block that may be written. -/
def Blk.mine : Blk → Bool
  | .cells _ _ 1 => false
  | _ => true

/-- The model's memory, as the heap tells of it: of what is placed. -/
structure WR (φ : Phi) (G : Nat → Option Blk) (w : World) : Prop where
  real : ∀ b blk L, G b = some blk → φ b = some L → ∃ o, w.heap[L.b]? = some o ∧ Real φ L o blk
  inj : ∀ b b' blk blk' L L', G b = some blk → G b' = some blk' → φ b = some L → φ b' = some L' → L.b = L'.b → b = b'

/-- From one memory to another. -/
structure Goes (φ : Phi) (G : Nat → Option Blk) (n : Nat) (w : World) (ψ : Phi) (G' : Nat → Option Blk) (n' : Nat) (w' : World) : Prop where
  le : φ.le ψ
  new : ∀ b, ψ b ≠ φ b → n ≤ b ∧ b < n'
  wr : WR ψ G' w'
  keep : ∀ c, c < w.heap.size → (∀ b blk L, G b = some blk → blk.mine = true → φ b = some L → L.b ≠ c) → w'.heap[c]? = w.heap[c]?
  size : w.heap.size ≤ w'.heap.size
  foot : ∀ b blk L, G' b = some blk → ψ b = some L → w.heap.size ≤ L.b ∨ ∃ b₀ blk₀ L₀, G b₀ = some blk₀ ∧ φ b₀ = some L₀ ∧ L₀.b = L.b ∧ (blk.mine = true → blk₀.mine = true)
  os : w'.os = w.os
  output : w'.output = w.output

theorem WR.bound {φ : Phi} {G : Nat → Option Blk} {w : World} (h : WR φ G w) {b : Nat} {blk : Blk} {L : Loc} (hb : G b = some blk) (hL : φ b = some L) : L.b < w.heap.size := by
  obtain ⟨o, ho, _⟩ := h.real b blk L hb hL
  exact (Array.getElem?_eq_some_iff.1 ho).1

theorem Goes.refl {φ : Phi} {G : Nat → Option Blk} {n : Nat} {w : World} (h : WR φ G w) : Goes φ G n w φ G n w where
  le := Phi.le_refl φ
  new := fun _b hb => absurd rfl hb
  wr := h
  keep := fun _ _ _ => rfl
  size := Nat.le_refl _
  foot := fun b blk L hb hL => .inr ⟨b, blk, L, hb, hL, rfl, id⟩
  os := rfl
  output := rfl

theorem Goes.trans {φ ψ χ : Phi} {G G' G'' : Nat → Option Blk} {n n' n'' : Nat} {w w' w'' : World} (hn : n ≤ n') (hn' : n' ≤ n'')
    (h : Goes φ G n w ψ G' n' w') (h' : Goes ψ G' n' w' χ G'' n'' w'') : Goes φ G n w χ G'' n'' w'' where
  le := Phi.le_trans h.le h'.le
  new := fun b hb => by
    by_cases h1 : ψ b = φ b
    · have := h'.new b (h1 ▸ hb); exact ⟨by omega, this.2⟩
    · have := h.new b h1; exact ⟨this.1, by omega⟩
  wr := h'.wr
  keep := fun c hc hno => by
    rw [h'.keep c (Nat.lt_of_lt_of_le hc h.size) ?_, h.keep c hc hno]
    intro b blk L hb hm hL heq
    rcases h.foot b blk L hb hL with hf | ⟨b₀, blk₀, L₀, h1, h2, h3, h4⟩
    · omega
    · exact hno b₀ blk₀ L₀ h1 (h4 hm) h2 (h3.trans heq)
  size := Nat.le_trans h.size h'.size
  foot := fun b blk L hb hL => by
    rcases h'.foot b blk L hb hL with hf | ⟨b₀, blk₀, L₀, h1, h2, h3, h4⟩
    · exact .inl (Nat.le_trans h.size hf)
    · rcases h.foot b₀ blk₀ L₀ h1 h2 with hf | ⟨b₁, blk₁, L₁, g1, g2, g3, g4⟩
      · exact .inl (by omega)
      · exact .inr ⟨b₁, blk₁, L₁, g1, g2, g3.trans h3, fun hm => g4 (h4 hm)⟩
  os := h'.os.trans h.os
  output := h'.output.trans h.output

/-- What a heap holds less serves whoever needs less. -/
theorem WR.less {φ : Phi} {G G' : Nat → Option Blk} {w : World} (h : WR φ G w) (hs : ∀ b blk, G' b = some blk → φ b ≠ none → G b = some blk) : WR φ G' w where
  real := fun b blk L hb hL => h.real b blk L (hs b blk hb (by rw [hL]; simp)) hL
  inj := fun b b' blk blk' L L' hb hb' hL hL' he =>
    h.inj b b' blk blk' L L' (hs b blk hb (by rw [hL]; simp)) (hs b' blk' hb' (by rw [hL']; simp)) hL hL' he

/-- The world but for what was drawn. -/
theorem WR.drawn {φ : Phi} {G : Nat → Option Blk} {w w' : World} (h : WR φ G w) (he : w'.heap = w.heap) : WR φ G w' where
  real := fun b blk L hb hL => by rw [he]; exact h.real b blk L hb hL
  inj := h.inj
theorem Goes.drawn {φ : Phi} {G : Nat → Option Blk} {n : Nat} {w w' : World} (h : WR φ G w) (he : w'.heap = w.heap) (ho : w'.os = w.os) (hp : w'.output = w.output) : Goes φ G n w φ G n w' where
  le := Phi.le_refl φ
  new := fun b hb => absurd rfl hb
  wr := h.drawn he
  keep := fun _ _ _ => by rw [he]
  size := by rw [he]; exact Nat.le_refl _
  foot := fun b blk L hb hL => .inr ⟨b, blk, L, hb, hL, rfl, id⟩
  os := ho
  output := hp

/-- The frame's deferred calls: none, or, behind a range over a function, that of its rounds' own. -/
def DF (φ : Phi) (T : AT) (n : Nat) (ds : List Deferred) : Prop :=
  match T.get n with
  | some (.mark b) => ∃ L, φ b = some L ∧ ds = [{ target := .collected L.b, args := #[] }]
  | _ => ds = []
theorem DF.mono {φ ψ : Phi} (h : φ.le ψ) {T : AT} {n : Nat} {ds : List Deferred} (hd : DF φ T n ds) : DF ψ T n ds := by
  unfold DF at hd ⊢
  split at hd
  · rename_i b hb
    obtain ⟨L, h1, h2⟩ := hd
    exact ⟨L, h b L h1, h2⟩
  · exact hd
theorem DF.congr {φ : Phi} {T T' : AT} {n : Nat} {ds : List Deferred} (hd : DF φ T n ds) (h : T'.get n = T.get n) : DF φ T' n ds := by
  unfold DF at hd ⊢
  rw [h]
  exact hd
theorem DF.none {φ : Phi} {T : AT} {n : Nat} (h : T.get n = none) : DF φ T n [] := by
  unfold DF
  rw [h]

/-- What the frame's slots hold. -/
structure TR (φ : Phi) (T : AT) (n : Nat) (a : Act) : Prop where
  val : ∀ i v, T.get i = some v → conc φ v = some (a.tmps.getD i undef)
  size : a.tmps.size = n
  defers : DF φ T n a.defers

theorem TR.mono {φ ψ : Phi} (h : φ.le ψ) {T : AT} {n : Nat} {a : Act} (ht : TR φ T n a) : TR ψ T n a :=
  ⟨fun i v hv => conc_mono h v (ht.val i v hv), ht.size, ht.defers.mono h⟩

def putT (T : AT) : Option Tmp → AV → AT
  | none, _ => T
  | some d, v => T.set d (some v)

theorem TR.put {φ : Phi} {T : AT} {n : Nat} {a : Act} (ht : TR φ T n a) {d : Option Tmp} {v : AV} {x : Value} (hd : ∀ i, d = some i → i < n) (hv : conc φ v = some x) :
    TR φ (putT T d v) n (a.put d x) := by
  cases d with
  | none => exact ht
  | some d =>
    have hlt : d < a.tmps.size := by rw [ht.size]; exact hd d rfl
    refine ⟨fun i u hu => ?_, by simpa [Act.put] using ht.size, ht.defers.congr ?_⟩
    case refine_2 =>
      have h1 : ¬ n = d := fun e => absurd (hd d rfl) (by rw [← e]; exact Nat.lt_irrefl _)
      simp only [putT, Trie.get_set]
      rw [if_neg h1]
    simp only [putT, Trie.get_set] at hu
    by_cases hi : i = d
    · subst hi
      simp only [if_pos] at hu
      cases hu
      simp [Act.put, hlt, hv]
    · rw [if_neg hi] at hu
      have := ht.val i u hu
      simp only [Act.put]
      rw [this]
      congr 1
      simp only [Array.getD_eq_getD_getElem?]
      rw [Array.getElem?_setIfInBounds_ne (by omega)]

end GoX
