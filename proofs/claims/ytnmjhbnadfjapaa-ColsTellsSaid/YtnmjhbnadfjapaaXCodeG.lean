/-
  TABLES: package-level variables that the statement lists with what they hold, as a first memory. No program is named here.
-/
import Derived.Test.YtnmjhbnadfjapaaXCodeF
import Derived.Lib.LaidTab
import Derived.Below
import Derived.ChangeArms
namespace GoX
open Go

/-- A table: the variable's number, its cells, as the run and as the model keep them, and its block's type. -/
structure TabL where
  g : Nat
  cs : List AV
  vs : List Value
  e : TypeId
  same : ∀ φ : Phi, concs φ cs = some vs

theorem concs_ints (φ : Phi) (k : IntKind) : ∀ zs : List Int, concs φ (zs.map (AV.int k)) = some (zs.map (Value.int k))
  | [] => rfl
  | _ :: zs => concs_cons_mk rfl (concs_ints φ k zs)
theorem concs_texts (φ : Phi) : ∀ ts : List (List UInt8), concs φ (ts.map AV.str) = some (ts.map fun b => Value.string ⟨b.toArray⟩)
  | [] => rfl
  | _ :: ts => concs_cons_mk rfl (concs_texts φ ts)
/-- Numbers of one kind. -/
def TabL.ints (g : Nat) (k : IntKind) (zs : List Int) (e : TypeId) : TabL := ⟨g, zs.map (AV.int k), zs.map (Value.int k), e, fun φ => concs_ints φ k zs⟩
/-- Texts. -/
def TabL.texts (g : Nat) (ts : List (List UInt8)) (e : TypeId) : TabL := ⟨g, ts.map AV.str, ts.map fun b => Value.string ⟨b.toArray⟩, e, fun φ => concs_texts φ ts⟩

noncomputable def TabL.blk (x : TabL) : Blk := .cells x.cs x.e 1
noncomputable def tabsT : List TabL → Trie Blk
  | [] => .leaf
  | x :: r => (tabsT r).set x.g (some x.blk)
theorem tabsT_get : ∀ {l : List TabL} {b : Nat} {blk : Blk}, (tabsT l).get b = some blk → ∃ x ∈ l, b = x.g ∧ blk = x.blk
  | [], b, blk, h => by rw [tabsT, Trie.get_leaf] at h; cases h
  | x :: r, b, blk, h => by
    rw [tabsT, Trie.get_set] at h
    by_cases hb : b = x.g
    · rw [if_pos hb] at h
      exact ⟨x, by simp, hb, (Option.some.inj h).symm⟩
    · rw [if_neg hb] at h
      obtain ⟨y, hy, h1, h2⟩ := tabsT_get h
      exact ⟨y, by simp [hy], h1, h2⟩

/-- That a table lies in a world. -/
def TabL.lies (x : TabL) (w : World) : Prop := w.heap[x.g]? = some (.cells x.vs.toArray x.e)

def phiG (ng : Nat) : Phi := fun b => if b < ng then some ⟨b, 0, 0⟩ else none

/-- A call over tables that the run has ended with 'true'; functions joined. -/
theorem true_ofT {K : Tab} (hK : K.Ok) {ng : Nat} (hng : K.ng = ng) (hN : ∀ (f : Nat) fn, K.P.funcs[f]? = some fn → (fn.name == "runtime.NumGoroutine") = false) {js : List Nat} {lf d : Nat} {f : FuncId} {args : List AV} {l : List TabL}
    (h : (denJ K js lf (fun n call ops => drawC K n call ops) d f).go args ⟨ng, tabsT l⟩ isTrue = true) {xs : List Value} (hx : concs (phiG ng) args = some xs) (w : World) (hl : ∀ x ∈ l, x.g < ng ∧ x.lies w) (hm : isMark args = false := by rfl) :
    Calls K.P f xs.toArray w fun e w' => e = .returned (.bool true) ∧ Calm w w' := by
  have hget : ∀ b blk, (AH.mk ng (tabsT l)).get b = some blk → ∃ x ∈ l, b = x.g ∧ blk = x.blk := fun b blk hb => tabsT_get hb
  refine (calls_ofJ hK hN h (φ := phiG ng) hx (fun g hgl => by simp [phiG, hng ▸ hgl]) ⟨fun b blk L hb hL => ?_, fun b b' blk blk' L L' hb hb' hL hL' he => ?_⟩ (fun b hb => ?_) (fun b blk hb => ?_) hm).mono fun e w' hh => ?_
  · obtain ⟨x, hx, rfl, rfl⟩ := hget b blk hb
    obtain ⟨hlt, hlie⟩ := hl x hx
    simp only [phiG, hlt, if_true, Option.some.injEq] at hL
    subst hL
    exact ⟨_, hlie, _, x.same _, rfl, rfl⟩
  · have h1 : ∀ c M, phiG ng c = some M → M.b = c := fun c M hM => by
      simp only [phiG] at hM
      split at hM
      · cases hM; rfl
      · cases hM
    rw [← h1 b L hL, ← h1 b' L' hL', he]
  · have : ¬ b < ng := by simpa using hb
    simp [phiG, this]
  · obtain ⟨x, hx, rfl, rfl⟩ := hget b blk hb
    rfl
  · obtain ⟨v, H', ψ, x, rfl, hk, hcx, _, hc⟩ := hh
    refine ⟨?_, hc⟩
    match v, hk with
    | .bool b, hk =>
      have hb : b = true := hk
      subst hb
      simp only [conc] at hcx
      cases hcx
      rfl

/-- A call over tables that the run has ended with a value that names no memory. -/
theorem val_ofT {K : Tab} (hK : K.Ok) {ng : Nat} (hng : K.ng = ng) (hN : ∀ (f : Nat) fn, K.P.funcs[f]? = some fn → (fn.name == "runtime.NumGoroutine") = false) {js : List Nat} {lf d : Nat} {f : FuncId} {args : List AV} {l : List TabL}
    {v0 : AV} {x0 : Value} (hv0 : ∀ ψ, conc ψ v0 = some x0) (h : (denJ K js lf (fun n call ops => drawC K n call ops) d f).go args ⟨ng, tabsT l⟩ (fun v _ => smV 64 v v0) = true) {xs : List Value} (hx : concs (phiG ng) args = some xs) (w : World)
    (hl : ∀ x ∈ l, x.g < ng ∧ x.lies w) (hm : isMark args = false := by rfl) :
    Calls K.P f xs.toArray w fun e w' => e = .returned x0 ∧ Calm w w' := by
  have hget : ∀ b blk, (AH.mk ng (tabsT l)).get b = some blk → ∃ x ∈ l, b = x.g ∧ blk = x.blk := fun b blk hb => tabsT_get hb
  refine (calls_ofJ hK hN h (φ := phiG ng) hx (fun g hgl => by simp [phiG, hng ▸ hgl]) ⟨fun b blk L hb hL => ?_, fun b b' blk blk' L L' hb hb' hL hL' he => ?_⟩ (fun b hb => ?_) (fun b blk hb => ?_) hm).mono fun e w' hh => ?_
  · obtain ⟨x, hx, rfl, rfl⟩ := hget b blk hb
    obtain ⟨hlt, hlie⟩ := hl x hx
    simp only [phiG, hlt, if_true, Option.some.injEq] at hL
    subst hL
    exact ⟨_, hlie, _, x.same _, rfl, rfl⟩
  · have h1 : ∀ c M, phiG ng c = some M → M.b = c := fun c M hM => by
      simp only [phiG] at hM
      split at hM
      · cases hM; rfl
      · cases hM
    rw [← h1 b L hL, ← h1 b' L' hL', he]
  · have : ¬ b < ng := by simpa using hb
    simp [phiG, this]
  · obtain ⟨x, hx, rfl, rfl⟩ := hget b blk hb
    rfl
  · obtain ⟨v, H', ψ, x, rfl, hk, hcx, _, hc⟩ := hh
    have hvv := smV_ok _ _ _ hk
    rw [hvv, hv0] at hcx
    cases hcx
    exact ⟨rfl, hc⟩

/-- The same, over one block that lies somewhere, and no table. -/
theorem val_of1 {K : Tab} (hK : K.Ok) (hng : K.ng = 0) (hN : ∀ (f : Nat) fn, K.P.funcs[f]? = some fn → (fn.name == "runtime.NumGoroutine") = false) {js : List Nat} {lf d : Nat} {f : FuncId} {args : List AV} {cs : List AV} {vs : List Value} {e : TypeId}
    {v0 : AV} {x0 : Value} (hc : ∀ φ, concs φ cs = some vs) (hv0 : ∀ ψ, conc ψ v0 = some x0)
    (h : (denJ K js lf (fun n call ops => drawC K n call ops) d f).go args ⟨1, Trie.leaf.set 0 (some (.cells cs e 1))⟩ (fun v _ => smV 64 v v0) = true) {xs : List Value} {b : Nat}
    (hx : concs (fun k => if k = 0 then some ⟨b, 0, 0⟩ else none) args = some xs) (w : World) (hw : w.heap[b]? = some (.cells vs.toArray e)) (hm : isMark args = false := by rfl) :
    Calls K.P f xs.toArray w fun e w' => e = .returned x0 ∧ Calm w w' := by
  have hget : ∀ c blk, (AH.mk 1 (Trie.leaf.set 0 (some (.cells cs e 1)))).get c = some blk → c = 0 ∧ blk = .cells cs e 1 := fun c blk hb => by
    unfold AH.get at hb
    simp only [Trie.get_set, Trie.get_leaf] at hb
    split at hb
    · rename_i h0; exact ⟨h0, (Option.some.inj hb).symm⟩
    · cases hb
  refine (calls_ofJ hK hN h hx (fun g hgl => by omega) ⟨fun c blk L hb hL => ?_, fun c c' blk blk' L L' hb hb' _ _ _ => ?_⟩ (fun c hb => ?_) (fun c blk hb => ?_) hm).mono fun e w' hh => ?_
  · obtain ⟨rfl, rfl⟩ := hget c blk hb
    simp only [if_true, Option.some.injEq] at hL
    subst hL
    exact ⟨_, hw, vs, hc _, rfl, rfl⟩
  · rw [(hget c blk hb).1, (hget c' blk' hb').1]
  · have hb : 1 ≤ c := hb
    rw [if_neg (by omega)]
  · obtain ⟨rfl, rfl⟩ := hget c blk hb
    rfl
  · obtain ⟨v, H', ψ, x, rfl, hk, hcx, _, hcc⟩ := hh
    have hvv := smV_ok _ _ _ hk
    rw [hvv, hv0] at hcx
    cases hcx
    exact ⟨rfl, hcc⟩

/-- A call, and a call of what it returned. -/
theorem chain_ofT {K : Tab} (hK : K.Ok) {ng : Nat} (hng : K.ng = ng) (hN : ∀ (f : Nat) fn, K.P.funcs[f]? = some fn → (fn.name == "runtime.NumGoroutine") = false) {js : List Nat} {lf d : Nat} {f g : FuncId} {args : List AV} {l : List TabL}
    {v0 : AV} {x0 : Value} (hv0 : ∀ ψ, conc ψ v0 = some x0)
    (h : (denJ K js lf (fun n call ops => drawC K n call ops) d f).go args ⟨ng, tabsT l⟩ (fun v H => cond (isMark [v]) false (cond (Nat.ble ng H.next) ((denJ K js lf (fun n call ops => drawC K n call ops) d g).go [v] H fun u _ => smV 64 u v0) false)) = true)
    {xs : List Value} (hx : concs (phiG ng) args = some xs) (w : World) (hl : ∀ x ∈ l, x.g < ng ∧ x.lies w) (hm : isMark args = false := by rfl) :
    Calls K.P f xs.toArray w fun e w1 => ∃ x, e = .returned x ∧ Calm w w1 ∧ Calls K.P g #[x] w1 fun e w' => e = .returned x0 ∧ Calm w w' := by
  have hget : ∀ b blk, (AH.mk ng (tabsT l)).get b = some blk → ∃ x ∈ l, b = x.g ∧ blk = x.blk := fun b blk hb => tabsT_get hb
  have hro : ∀ b blk, (AH.mk ng (tabsT l)).get b = some blk → blk.mine = false := fun b blk hb => by
    obtain ⟨x, hx, rfl, rfl⟩ := hget b blk hb
    rfl
  have hfr : ∀ b, (AH.mk ng (tabsT l)).next ≤ b → phiG ng b = none := fun b hb => by
    have : ¬ b < ng := by simpa using hb
    simp [phiG, this]
  have hglob : Glob K.ng (phiG ng) := fun g hgl => by simp [phiG, hng ▸ hgl]
  refine (calls_ofJ hK hN h (φ := phiG ng) hx hglob ⟨fun b blk L hb hL => ?_, fun b b' blk blk' L L' hb hb' hL hL' he => ?_⟩ hfr hro hm).mono fun e w1 hh => ?_
  · obtain ⟨x, hx, rfl, rfl⟩ := hget b blk hb
    obtain ⟨hlt, hlie⟩ := hl x hx
    simp only [phiG, hlt, if_true, Option.some.injEq] at hL
    subst hL
    exact ⟨_, hlie, _, x.same _, rfl, rfl⟩
  · have h1 : ∀ c M, phiG ng c = some M → M.b = c := fun c M hM => by
      simp only [phiG] at hM
      split at hM
      · cases hM; rfl
      · cases hM
    rw [← h1 b L hL, ← h1 b' L' hL', he]
  · obtain ⟨v, H', ψ, x, rfl, hk, hcx, hgo, hc⟩ := hh
    obtain ⟨hnm, hk⟩ := cond_false_of hk
    obtain ⟨hnx, hk⟩ := cond_true_of hk
    have hnx := ble_le hnx
    refine ⟨x, rfl, hc, ?_⟩
    obtain ⟨_, O, h1, h2, _⟩ := denJ_good hK hN (drawC_good hK) d g [v] H' _ hk
    obtain ⟨u0, J0, hO0⟩ := h2.1
    have hfr2 : ∀ b, H'.next ≤ b → ng ≤ b → ψ b = none := fun b hb hb2 => by
      by_cases hne : ψ b = phiG ng b
      · rw [hne]; exact hfr b hb2
      · have := (hgo.new b hne).2; omega
    have hcall := (Runs.calls hnm).1 (h2.2.2 ψ [x] w1 (concs_cons_mk hcx rfl) (hglob.le hgo.le) hgo.wr (fun b hb _ => hfr2 b hb (by omega)) (fun e w' => e = .returned x0 ∧ Calm w w') fun u J χ y w' hO hgo2 hy => ?_)
    · exact hcall
    · have huu := smV_ok _ _ _ (h1 u J hO)
      rw [huu, hv0] at hy
      cases hy
      exact ⟨rfl, (hgo.trans hnx (h2.2.1 u J hO) hgo2).calm hro⟩

/-- What the statement's list says of a table, by its place on the list. -/
theorem tab_at {P : Program} {W : World} : ∀ {laid : List (String × DataW Unit)} {ps : List MemPlace}, DataW.LaidVars P W laid ps → ∀ (i : Nat) {name : String} {k : IntKind} {zs : List Int} {g : Nat} {t e : TypeId} {n : Nat},
    laid[i]? = some (name, Lib.tabData k zs) → P.globalNamed name = some g → (P.globals[g]?).map (·.type) = some t → P.underlying t = some (.array n e) → P.underlying e = some (.int k) → P.cellsOf e = 1 → P.cellsOf t = n →
    Lib.TabIs P W name k zs
  | [], _, _, i, _, _, _, _, _, _, _, hi, _, _, _, _, _, _ => by simp at hi
  | (nm, d) :: r, ps, h, i, name, k, zs, g, t, e, n, hi, hg, hty, ht, he, hce, hct => by
    obtain ⟨g', t', cs, fuel, p, q, hg', ht', hvar, hd, hr, _⟩ := h
    cases i with
    | zero =>
      simp only [List.getElem?_cons_zero, Option.some.injEq, Prod.mk.injEq] at hi
      obtain ⟨rfl, rfl⟩ := hi
      obtain rfl := Option.some.inj (hg.symm.trans hg')
      obtain rfl := Option.some.inj (hty.symm.trans ht')
      unfold Lib.TabIs
      rw [hvar, ← Lib.cells_of_tab ht he hce hct hd]
    | succ i => exact tab_at hr i (by simpa using hi) hg hty ht he hce hct

theorem lies_var {P : Program} {W : World} (hs : W.ShapedOpen P) {name : String} {x : TabL} (hg : P.globalNamed name = some x.g) (hlt : x.g < P.globals.size)
    (h0 : ((((begin P (fun _ _ => 0) default).world).heap[x.g]?).bind Obj.row?).map (·.2) = some x.e) (ht : W.var? P name = some x.vs.toArray) : x.lies W := by
  obtain ⟨⟨zero, e'⟩, h0, he⟩ := Option.map_eq_some_iff.1 h0
  obtain rfl : e' = x.e := he
  obtain ⟨cs, hcs, _, _⟩ := hs.1 x.g zero x.e hlt h0
  unfold World.var? at ht
  rw [hg, Option.bind_some, hcs] at ht
  have ht : cs = x.vs.toArray := Option.some.inj ht
  unfold TabL.lies
  rw [hcs, ht]
theorem lies_of {P : Program} {W : World} (hs : W.ShapedOpen P) {name : String} {g : Nat} {k : IntKind} {zs : List Int} {e : TypeId} (hg : P.globalNamed name = some g) (hlt : g < P.globals.size)
    (h0 : ((((begin P (fun _ _ => 0) default).world).heap[g]?).bind Obj.row?).map (·.2) = some e) (ht : Lib.TabIs P W name k zs) : (TabL.ints g k zs e).lies W :=
  lies_var hs hg hlt h0 ht

/-- An array of texts that reads as a list of texts. -/
theorem cells_of_texts {H : Type} {enc : TypeId × Value → H} {P : Program} {w : World} {base : Nat} {sp : Nat → Bool} {held : Bool} {fuel : Nat} {t e : TypeId} {n : Nat} {cs : List Value} {ts : List (List UInt8)} {p : List MemPlace}
    (ht : P.underlying t = some (.array n e)) (he : P.underlying e = some .string) (hce : P.cellsOf e = 1) (hct : P.cellsOf t = n)
    (h : DataW.trod enc P w base sp held fuel t cs = some (.agg (ts.map fun b => .lit (.string b)), p)) : cs = ts.map fun b => Value.string ⟨b.toArray⟩ := by
  cases fuel with
  | zero => simp [DataW.trod] at h
  | succ fuel =>
    simp only [DataW.trod, ht, hce, hct, Nat.mul_one] at h
    split at h
    · rename_i hl
      obtain ⟨xs, hm, hx⟩ := Option.map_eq_some_iff.1 h
      have hxs : xs.map (·.1) = ts.map fun b => (DataW.lit (.string b) : DataW H) := by
        have := congrArg Prod.fst hx
        simpa using this
      have hxl : xs.length = n := by simpa using Lib.mapM_length hm
      have hzl : ts.length = n := by
        have := congrArg List.length hxs
        simp at this
        omega
      apply List.ext_getElem?
      intro i
      by_cases hi : i < n
      · obtain ⟨b, hb, hf⟩ := Lib.mapM_at hm i i (by simp [hi])
        obtain ⟨z, hc, rfl, _⟩ := DataW.trod_string he hf
        have h1 : cs[i]? = some (.string z) := by
          have := congrArg (·[0]?) hc
          simpa [List.getElem?_take, List.getElem?_drop] using this
        have h2 : (xs.map (·.1))[i]? = some (DataW.lit (.string z.data.toList) : DataW H) := by simp [hb]
        rw [hxs] at h2
        simp only [List.getElem?_map, Option.map_eq_some_iff, DataW.lit.injEq, Lit.string.injEq] at h2
        obtain ⟨z', hz', rfl⟩ := h2
        simp [h1, hz']
      · rw [List.getElem?_eq_none (by omega), List.getElem?_eq_none (by simp; omega)]
    · cases h
/-- What the statement's list says of a table of texts, by its place on the list. -/
theorem texts_at {P : Program} {W : World} : ∀ {laid : List (String × DataW Unit)} {ps : List MemPlace}, DataW.LaidVars P W laid ps → ∀ (i : Nat) {name : String} {ts : List (List UInt8)} {g : Nat} {t e : TypeId} {n : Nat},
    laid[i]? = some (name, .agg (ts.map fun b => .lit (.string b))) → P.globalNamed name = some g → (P.globals[g]?).map (·.type) = some t → P.underlying t = some (.array n e) → P.underlying e = some .string → P.cellsOf e = 1 → P.cellsOf t = n →
    W.var? P name = some (ts.map fun b => Value.string ⟨b.toArray⟩).toArray
  | [], _, _, i, _, _, _, _, _, _, hi, _, _, _, _, _, _ => by simp at hi
  | (nm, d) :: r, ps, h, i, name, ts, g, t, e, n, hi, hg, hty, ht, he, hce, hct => by
    obtain ⟨g', t', cs, fuel, p, q, hg', ht', hvar, hd, hr, _⟩ := h
    cases i with
    | zero =>
      simp only [List.getElem?_cons_zero, Option.some.injEq, Prod.mk.injEq] at hi
      obtain ⟨rfl, rfl⟩ := hi
      obtain rfl := Option.some.inj (hg.symm.trans hg')
      obtain rfl := Option.some.inj (hty.symm.trans ht')
      have e := cells_of_texts ht he hce hct hd
      obtain rfl : cs = (ts.map fun b => Value.string ⟨b.toArray⟩).toArray := Array.ext' (by simpa using e)
      exact hvar
    | succ i => exact texts_at hr i (by simpa using hi) hg hty ht he hce hct

/-- A struct: a row of cells, each of its type. -/
theorem arg_typed {P : Program} {w : World} {r : Reach} {base : Nat} {t : TypeId} {v : Value} {n : Nat} {ts : List TypeId} (hs : (match P.underlying t with | some (.struct _) | some (.array _ _) => true | _ => false) = true) (hn : P.cellsOf t = n)
    (hts : P.cellTypes P.depth t = some ts) (hl : ts.length = n) (h : Value.okWide P w r base t v) :
    ∃ l : List Value, l.length = n ∧ v = .agg l.toArray ∧ (∀ x ∈ l, x.oneCell' = true) ∧ ∀ (i : Nat) x, l[i]? = some x → ∃ u, ts[i]? = some u ∧ Cell.okWide P w r base u x := by
  have key : (∃ cs, v = .agg cs ∧ cs.size = P.cellsOf t ∧ Row.okWide P w r base t cs) → ∃ l : List Value, l.length = n ∧ v = .agg l.toArray ∧ (∀ x ∈ l, x.oneCell' = true) ∧ ∀ (i : Nat) x, l[i]? = some x → ∃ u, ts[i]? = some u ∧ Cell.okWide P w r base u x := by
    rintro ⟨cs, rfl, hsz, ts', hts', _, hall⟩
    rw [hts] at hts'; cases hts'
    have hall' : ∀ (i : Nat) x, cs.toList[i]? = some x → ∃ u, ts[i]? = some u ∧ Cell.okWide P w r base u x := fun i x hi => by
      obtain ⟨u, h1, h2⟩ := hall i x (by simpa using hi)
      have hlt : i < ts.length := by
        have := (List.getElem?_eq_some_iff.1 hi).1
        simp only [Array.length_toList] at this
        omega
      rw [Nat.mod_eq_of_lt hlt] at h1
      exact ⟨u, h1, h2⟩
    refine ⟨cs.toList, by simpa using hsz.trans hn, by simp, fun x hx => ?_, hall'⟩
    obtain ⟨i, hi⟩ := List.mem_iff_getElem?.1 hx
    obtain ⟨u, _, hu⟩ := hall' i x hi
    exact ok_cell hu
  unfold Value.okWide at h
  split at h
  · exact key h
  · exact key h
  · rename_i h1 h2
    exfalso
    revert hs
    cases hp : P.underlying t with
    | none => simp
    | some d => cases d <;> simp_all

theorem cell_int {P : Program} {w : World} {r : Reach} {base : Nat} {u : TypeId} {x : Value} {k : IntKind} (hu : P.underlying u = some (.int k)) (h : Cell.okWide P w r base u x) : ∃ n, x = .int k n := by
  unfold Cell.okWide at h
  rw [hu] at h
  unfold Cell.ok at h
  rw [hu] at h
  cases x <;> simp_all
theorem arg_int {P : Program} {w : World} {r : Reach} {base : Nat} {t : TypeId} {v : Value} {k : IntKind} (hu : P.underlying t = some (.int k)) (h : Value.okWide P w r base t v) : ∃ n, v = .int k n := by
  unfold Value.okWide at h
  rw [hu] at h
  exact cell_int hu h

theorem arg_bool {P : Program} {w : World} {r : Reach} {base : Nat} {t : TypeId} {v : Value} (hu : P.underlying t = some .bool) (h : Value.okWide P w r base t v) : ∃ b, v = .bool b := by
  unfold Value.okWide at h
  rw [hu] at h
  unfold Cell.okWide at h
  rw [hu] at h
  unfold Cell.ok at h
  rw [hu] at h
  cases v <;> simp_all

theorem Calm.refl (w : World) : Calm w w := ⟨World.keptBut_refl _ _, fun _ _ => rfl, Nat.le_refl _, fun _ _ => rfl⟩
theorem Calm.trans {w w' w'' : World} (h : Calm w w') (h' : Calm w' w'') : Calm w w'' :=
  ⟨World.keptBut_trans h.kept h'.kept, fun a ha => (h'.frozen a (Nat.lt_of_lt_of_le ha h.size)).trans (h.frozen a ha), Nat.le_trans h.size h'.size,
    fun k hk => (h'.block k (Nat.lt_of_lt_of_le hk h.size)).trans (h.block k hk)⟩
theorem Calm.of_below {w w' : World} (h : RowKit.Below w.heap.size w w') : Calm w w' :=
  ⟨h.frame _, fun _ ha => h.frozen ha, h.size, fun k hk => h.block k hk⟩
end GoX
