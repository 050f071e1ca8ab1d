/-
  FUNCTIONS KNOWN BY THEIR CONTRACTS, in a run: what they do to a row of cells. No program is named here.
-/
import Derived.Test.YtfkcopokeofjoaaGreatXCodeG
namespace GoX
open Go Go.RowKit

/-- A function that is called with a row of cells, and hands on a row of its own. -/
structure Orc (K : Tab) (f : FuncId) (e : TypeId) (fo : List AV → (List AV → Bool) → Bool) : Prop where
  enter : Entered K f
  ok : ∀ cs k, fo cs k = true → ∃ out, k out = true ∧ ∀ (φ : Phi) (vs : List Value) (b off cap : Nat) (w : World), concs φ cs = some vs → (∀ j u, vs[j]? = some u → w.cell? ⟨b, off + j, none⟩ = some u) → b < w.heap.size →
    ∃ ws, concs φ out = some ws ∧ Calls K.P f #[.slice (some ⟨b, off, none⟩) vs.length cap] w fun e' w' => ∃ g cp cur, e' = .returned (.slice (some ⟨g, 0, none⟩) out.length cp) ∧ w.heap.size ≤ g ∧ w'.heap[g]? = some (.cells cur e (0, 0)) ∧ out.length ≤ cp ∧ cur.size = cp ∧
      cur.toList.take out.length = ws ∧ Below w.heap.size w w'

noncomputable def orcF (e : TypeId) (fo : List AV → (List AV → Bool) → Bool) : CF := ⟨fun args H k => match args with
  | [.sl (some (b, o)) n (.exact _)] => Trie.getK (bits b) H.t false fun blk => match blk with
    | .cells c _ _ => cond (Nat.beq ((c.drop o).take n).length n) (fo ((c.drop o).take n) fun out => newBlkK H (.cells out e 3) fun nb H => k (.sl (some (nb, 0)) out.length (.opened 0)) H) false
    | _ => false
  | [.sl (some (b, o)) n (.opened _)] => Trie.getK (bits b) H.t false fun blk => match blk with
    | .cells c _ _ => cond (Nat.beq ((c.drop o).take n).length n) (fo ((c.drop o).take n) fun out => newBlkK H (.cells out e 3) fun nb H => k (.sl (some (nb, 0)) out.length (.opened 0)) H) false
    | _ => false
  | _ => false⟩

theorem concs_takes {φ : Phi} {l : List AV} {r : List Value} (o n : Nat) (h : concs φ l = some r) : concs φ ((l.drop o).take n) = some ((r.drop o).take n) := concs_take n (concs_drop o h)

/-- A block more, which a callee has laid. -/
theorem goes_laid {φ : Phi} {G : Nat → Option Blk} {n : Nat} {w w' : World} (hw : WR φ G w) (hn : φ n = none) {blk : Blk} {obj : Obj} {L : Loc} (hg : w.heap.size ≤ L.b) (ho : w'.heap[L.b]? = some obj) (hr : Real (upd φ n (some L)) L obj blk) (hB : Below w.heap.size w w') :
    Goes φ G n w (upd φ n (some L)) (upd G n (some blk)) (n + 1) w' := by
  have hle := Phi.le_upd hn L
  have hold : ∀ b M, b ≠ n → (upd φ n (some L)) b = some M → φ b = some M := fun b M hb h => by simpa [upd, hb] using h
  refine ⟨hle, fun b hb => ?_, ⟨fun b bl M hb hM => ?_, fun b b' bl bl' M M' hb hb' hM hM' he => ?_⟩, fun c hc _ => hB.block c hc, hB.size, fun b bl M hb hM => ?_, hB.os, hB.output⟩
  · by_cases hbn : b = n
    · omega
    · exact absurd (by simp [upd, hbn]) hb
  · by_cases hbn : b = n
    · subst hbn
      simp only [upd, if_pos] at hb hM
      cases hb
      cases hM
      exact ⟨obj, ho, hr⟩
    · simp only [upd, if_neg hbn] at hb
      obtain ⟨o, h1, h2⟩ := hw.real b bl M hb (hold b M hbn hM)
      exact ⟨o, (hB.block M.b (Array.getElem?_eq_some_iff.1 h1).1).trans h1, h2.mono hle⟩
  · by_cases h1 : b = n <;> by_cases h2 : b' = n
    · rw [h1, h2]
    · subst h1
      simp only [upd, if_neg h2] at hb'
      simp only [upd, if_pos] at hM
      cases hM
      have := hw.bound hb' (hold b' M' h2 hM')
      omega
    · subst h2
      simp only [upd, if_neg h1] at hb
      simp only [upd, if_pos] at hM'
      cases hM'
      have := hw.bound hb (hold b M h1 hM)
      omega
    · simp only [upd, if_neg h1] at hb
      simp only [upd, if_neg h2] at hb'
      exact hw.inj b b' _ _ M M' hb hb' (hold b M h1 hM) (hold b' M' h2 hM') he
  · by_cases hbn : b = n
    · subst hbn
      simp only [upd, if_pos] at hM
      cases hM
      exact .inl hg
    · simp only [upd, if_neg hbn] at hb
      exact .inr ⟨b, bl, M, hb, hold b M hbn hM, rfl, id⟩

theorem orc_good {K : Tab} {f : FuncId} {e : TypeId} {fo : List AV → (List AV → Bool) → Bool} (ho : Orc K f e fo) : (orcF e fo).Good K true f := fun args H k h => by
  have key : ∀ (b o n : Nat) (cp : Cap), args = [.sl (some (b, o)) n cp] → (∀ φ x, conc φ (.sl (some (b, o)) n cp) = some x → ∃ L c, φ b = some L ∧ x = .slice (some ⟨L.b, L.o + o, none⟩) n c) →
      Trie.getK (bits b) H.t false (fun blk => match blk with
        | .cells c _ _ => cond (Nat.beq ((c.drop o).take n).length n) (fo ((c.drop o).take n) fun out => newBlkK H (.cells out e 3) fun nb H => k (.sl (some (nb, 0)) out.length (.opened 0)) H) false
        | _ => false) = true → (isMark args = false → Entered K f) ∧ ∃ O : AV → AH → Prop, (∀ v H', O v H' → k v H' = true) ∧ SimF K f args H.get H.next O ∧ (true = true → One O) := fun b o n cp ha hc hh => by
    subst ha
    obtain ⟨blk, hb, h⟩ := getK_ok hh
    match blk, hb, h with
    | .cells c et kd, hb, h =>
    obtain ⟨hl, h⟩ := cond_true_of h
    have hl := beq_eq' hl
    obtain ⟨out, h, hcall⟩ := ho.ok _ _ h
    obtain ⟨H', g1, g2, h⟩ := newBlkK_ok h
    refine ⟨fun _ => ho.enter, fun v I => v = .sl (some (H.next, 0)) out.length (.opened 0) ∧ I = H', fun v I e => by rw [e.1, e.2]; exact h, ⟨⟨_, _, rfl, rfl⟩, fun v I e => by rw [e.2, g2]; omega, fun φ xs w hxs hg hw hfr R hR => ?_⟩, fun _ => ⟨_, _, fun _ _ e => e⟩⟩
    obtain ⟨x, ys, hx, hys, rfl⟩ := concs_cons hxs
    obtain rfl := concs_nil hys
    obtain ⟨L, cv, hL, rfl⟩ := hc φ x hx
    obtain ⟨cs, hcs, hcell⟩ := cell_real hw hb hL
    have hcs2 := concs_takes o n hcs
    have hlen := concs_length hcs2
    rw [hl] at hlen
    obtain ⟨ws, hws, hcc⟩ := hcall φ _ L.b (L.o + o) cv w hcs2 (fun j u hu => by
      rw [Nat.add_assoc]
      refine hcell (o + j) u ?_
      rw [List.getElem?_take] at hu
      split at hu
      · rwa [List.getElem?_drop] at hu
      · cases hu) (hw.bound hb hL)
    rw [hlen] at hcc
    refine (Runs.calls rfl).2 (hcc.mono fun e' w' hh => ?_)
    obtain ⟨g, cap, cur, rfl, hge, hcur, hle, hsz, htk, hB⟩ := hh
    have hφ : φ H.next = none := hfr _ (Nat.le_refl _) ⟨_, _, ⟨rfl, rfl⟩, by rw [g2]; omega⟩
    have hle' := Phi.le_upd hφ (⟨g, 0, cap⟩ : Loc)
    have hgo := goes_laid (G := H.get) (L := ⟨g, 0, cap⟩) (blk := .cells out e 3) hw hφ hge hcur
      ⟨ws, [], cur.toList.drop out.length, 0, 0, concs_mono hle' _ hws, by rw [← htk, List.nil_append, List.take_append_drop, Array.toArray_toList], rfl, by
        have h1 : (ws ++ cur.toList.drop out.length).length = cur.size := by rw [← htk, List.take_append_drop, Array.length_toList]
        show _ = cap * 1
        omega, fun i _ hi => by omega⟩ hB
    rw [← g1, ← g2] at hgo
    refine hR _ _ _ _ w' ⟨rfl, rfl⟩ hgo ?_
    simp [conc, concSl, upd, hle]
  unfold orcF at h
  simp only at h
  split at h
  · rename_i b o n c
    exact key b o n (.exact c) rfl (fun φ x hx => by
      simp only [conc, concSl, concP] at hx
      cases hb : φ b with
      | none => rw [hb] at hx; cases hx
      | some L => rw [hb] at hx; cases hx; exact ⟨L, c, rfl, rfl⟩) h
  · rename_i b o n lo
    exact key b o n (.opened lo) rfl (fun φ x hx => by
      simp only [conc, concSl] at hx
      cases hb : φ b with
      | none => rw [hb] at hx; cases hx
      | some L =>
        rw [hb] at hx
        simp only at hx
        split at hx
        · cases hx; exact ⟨L, _, rfl, rfl⟩
        · cases hx) h
  · cases h

/-- All functions, some of them joined, some by their contracts. -/
noncomputable def denO (K : Tab) (os : FuncId → Option CF) (js : List Nat) (lf : Nat) (dr : Nat → (FuncId → CF) → List Oper → CC) (d : Nat) : FuncId → CF :=
  Nat.rec (fun _ => CF.none) (fun _ ih f => match os f with
    | some c => c
    | none => match js.any (Nat.beq f) with
      | true => cfJ K lf dr ih f
      | false => cf K true lf dr ih f) d
theorem denO_good {K : Tab} (hK : K.Ok) (hN : ∀ (f : Nat) fn, K.P.funcs[f]? = some fn → (fn.name == "runtime.NumGoroutine") = false) {os : FuncId → Option CF} (ho : ∀ f c, os f = some c → c.Good K true f) {js : List Nat} {lf : Nat}
    {dr : Nat → (FuncId → CF) → List Oper → CC} (hdr : DrGood K true dr) : ∀ (d : Nat) (f : FuncId), (denO K os js lf dr d f).Good K true f
  | 0, f => CF.none_good K true f
  | d + 1, f => by
    have ih := denO_good hK hN ho (js := js) (lf := lf) hdr d
    show CF.Good K true f (match os f with
      | some c => c
      | none => match js.any (Nat.beq f) with
        | true => cfJ K lf dr (denO K os js lf dr d) f
        | false => cf K true lf dr (denO K os js lf dr d) f)
    cases hos : os f with
    | some c => exact ho f c hos
    | none =>
      simp only
      cases js.any (Nat.beq f) with
      | true => exact cfJ_good hK hN hdr ih f
      | false => exact cf_good hK hN hdr ih f

/-- A call over tables that the run has ended with 'true'; functions joined, and functions by their contracts. -/
theorem true_ofO {K : Tab} (hK : K.Ok) {ng : Nat} (hng : K.ng = ng) (hN : ∀ (f : Nat) fn, K.P.funcs[f]? = some fn → (fn.name == "runtime.NumGoroutine") = false) {os : FuncId → Option CF} (ho : ∀ f c, os f = some c → c.Good K true f)
    {js : List Nat} {lf d : Nat} {f : FuncId} {args : List AV} {l : List TabL}
    (h : (denO K os js lf (fun n call ops => drawC K n call ops) d f).go args ⟨ng, tabsT l⟩ isTrue = true) {xs : List Value} (hx : concs (phiG ng) args = some xs) (w : World) (hl : ∀ x ∈ l, x.g < ng ∧ x.lies w) (hm : isMark args = false := by rfl) :
    Calls K.P f xs.toArray w fun e w' => e = .returned (.bool true) ∧ Calm w w' := by
  have hget : ∀ b blk, (AH.mk ng (tabsT l)).get b = some blk → ∃ x ∈ l, b = x.g ∧ blk = x.blk := fun b blk hb => tabsT_get hb
  have hro : ∀ b blk, (AH.mk ng (tabsT l)).get b = some blk → blk.mine = false := fun b blk hb => by
    obtain ⟨x, hx, rfl, rfl⟩ := hget b blk hb
    rfl
  obtain ⟨_, O, h1, h2, _⟩ := denO_good hK hN ho (drawC_good hK) d f args _ _ h
  refine (Runs.calls hm).1 (h2.2.2 (phiG ng) xs w hx (fun g hgl => by simp [phiG, hng ▸ hgl]) ⟨fun b blk L hb hL => ?_, fun b b' blk blk' L L' hb hb' hL hL' he => ?_⟩ (fun b hb _ => ?_) _ fun v H' ψ x w' hO hgo hcx => ?_)
  · obtain ⟨x, hx, rfl, rfl⟩ := hget b blk hb
    obtain ⟨hlt, hlie⟩ := hl x hx
    simp only [phiG, hlt, if_true, Option.some.injEq] at hL
    subst hL
    exact ⟨_, hlie, _, x.same _, rfl, rfl⟩
  · have h1 : ∀ c M, phiG ng c = some M → M.b = c := fun c M hM => by
      simp only [phiG] at hM
      split at hM
      · cases hM; rfl
      · cases hM
    rw [← h1 b L hL, ← h1 b' L' hL', he]
  · have : ¬ b < ng := by simpa using hb
    simp [phiG, this]
  · have hk := h1 v H' hO
    refine ⟨?_, hgo.calm hro⟩
    match v, hk with
    | .bool b, hk =>
      have hb : b = true := hk
      subst hb
      simp only [conc] at hcx
      cases hcx
      rfl
end GoX
