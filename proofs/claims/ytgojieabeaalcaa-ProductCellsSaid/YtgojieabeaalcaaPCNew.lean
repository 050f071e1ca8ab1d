/-
  THE ROWS OF A LINE OF NODES, by run: what their box says first.
-/
import Derived.Test.YtgojieabeaalcaaOrdOrc
namespace Go.Proofs.Ytgojieabeaalcaa
open Go.ChangeShapes Go.WideShapes Go.ChangeAt Go.RowKit

section
open GoX
theorem chain_box {K : Tab} (hK : K.Ok) (hng : K.ng = 0) (hN : ∀ (f : Nat) fn, K.P.funcs[f]? = some fn → (fn.name == "runtime.NumGoroutine") = false) {os : FuncId → Option CF} (ho : ∀ f c, os f = some c → c.Good K true f) {js : List Nat} {lf d : Nat} {f g : FuncId} {args : List AV} {q : AV → AH → Bool}
    (h : (denO K os js lf (fun n call ops => drawC K n call ops) d f).go args .empty (fun v H => cond (isMark [v]) false ((denO K os js lf (fun n call ops => drawC K n call ops) d g).go [v] H q)) = true)
    {xs : List Value} (hx : concs (fun _ => none) args = some xs) (w : World) (hm : isMark args = false := by rfl) :
    Calls K.P f xs.toArray w fun e w1 => ∃ x, e = .returned x ∧ GoX.Calm w w1 ∧ Calls K.P g #[x] w1 fun e w' => (∃ u J χ y, e = .returned y ∧ q u J = true ∧ conc χ u = some y ∧ WR χ J.get w') ∧ GoX.Calm w w' := by
  have hro : ∀ b blk, AH.empty.get b = some blk → blk.mine = false := fun b blk hb => by rw [AH.empty_get] at hb; cases hb
  obtain ⟨_, O1, a1, a2, _⟩ := denO_good hK hN ho (drawC_good hK) d f args .empty _ h
  refine (Runs.calls hm).1 (a2.2.2 (fun _ => none) xs w hx (fun g hgl => by omega) ⟨fun b blk L _ hL => (by cases hL), fun b b' blk blk' L L' _ _ hL _ _ => (by cases hL)⟩ (fun _ _ _ => rfl) _ fun v H' ψ x w1 hO hgo hcx => ?_)
  have hk := a1 v H' hO
  obtain ⟨hnm, hk⟩ := cond_false_of hk
  refine ⟨x, rfl, hgo.calm hro, ?_⟩
  obtain ⟨_, O, h1, h2, _⟩ := denO_good hK hN ho (drawC_good hK) d g [v] H' _ hk
  have hfr2 : ∀ b, H'.next ≤ b → ψ b = none := fun b hb => by
    by_cases hne : ψ b = none
    · exact hne
    · have := (hgo.new b (fun e => hne e)).2; omega
  exact (Runs.calls hnm).1 (h2.2.2 ψ [x] w1 (concs_cons_mk hcx rfl) (fun g hgl => by omega) hgo.wr (fun b hb _ => hfr2 b hb) _ fun u J χ y w' hO hgo2 hy => ⟨⟨u, J, χ, y, rfl, h1 u J hO, hy, hgo2.wr⟩, (hgo.trans (Nat.zero_le _) (h2.2.1 u J hO) hgo2).calm hro⟩)

noncomputable def boxK (n : Nat) : AV → AH → Bool
  | .tup [.ptr (some (b, 0)), .int .i64 (.ofNat 0)], H => Trie.getK (GoX.bits b) H.t false fun blk => match blk with
    | .cells (.int .i64 (.ofNat m) :: _) _ _ => Nat.beq m n
    | _ => false
  | _, _ => false
theorem boxK_ok {n : Nat} {u : AV} {J : AH} {χ : Phi} {y : Value} {w : World} (h : boxK n u J = true) (hy : conc χ u = some y) (hw : WR χ J.get w) :
    ∃ b o, y = .tuple #[.pointer (some ⟨b, o, none⟩), .int .i64 0] ∧ b < w.heap.size ∧ w.cell? ⟨b, o, none⟩ = some (.int .i64 n) := by
  unfold boxK at h
  split at h
  · rename_i b
    obtain ⟨blk, hb, h⟩ := getK_ok h
    simp only [conc, concs, concP] at hy
    cases hL : χ b with
    | none => rw [hL] at hy; simp at hy
    | some L =>
      rw [hL] at hy
      simp only [Option.some.injEq] at hy
      split at h
      · rename_i m r t k
        obtain rfl := beq_eq' h
        obtain ⟨cs, hcs, hcell⟩ := cell_real hw hb hL
        obtain ⟨x, ys, hx, hys, rfl⟩ := concs_cons hcs
        simp only [conc, Option.some.injEq] at hx
        subst hx
        refine ⟨L.b, L.o, ?_, hw.bound hb hL, ?_⟩
        · rw [← hy]; simp
        · have := hcell 0 _ rfl
          simpa using this
      · cases h
  · cases h
end

noncomputable def KL := GoX.Tab.of Try.prog 0 []
theorem KL_ok : KL.Ok := GoX.Tab.of_ok Try.prog 0 [] (by simp) (by decide +kernel)
theorem namesL : (Try.prog.funcs.toList.all fun fn => !(fn.name == "runtime.NumGoroutine")) = true := by decide +kernel
set_option maxRecDepth 100000 in
theorem KL_named : ∀ (f : Nat) fn, KL.P.funcs[f]? = some fn → (fn.name == "runtime.NumGoroutine") = false := fun f fn h => by
  have h2 := List.all_eq_true.1 namesL fn (by
    have : Try.prog.funcs[f]? = some fn := by rw [← show KL.P = Try.prog from GoX.Tab.of_P Try.prog 0 []]; exact h
    exact List.mem_of_getElem? (by rw [Array.getElem?_toList]; exact this))
  simpa using h2
/-- What csr.New says of a line of so many nodes. -/
def NewSays (k : Nat) : Prop := ∀ w : World, Calls Try.prog 27 #[.int .i64 k] w fun e w1 => ∃ x, e = .returned x ∧ GoX.Calm w w1 ∧ Calls Try.prog 8 #[x] w1 fun e w' =>
  (∃ b o, e = .returned (.tuple #[.pointer (some ⟨b, o, none⟩), .int .i64 0]) ∧ b < w'.heap.size ∧ w'.cell? ⟨b, o, none⟩ = some (.int .i64 k)) ∧ GoX.Calm w w'
theorem new_of {os : FuncId → Option GoX.CF} (ho : ∀ f c, os f = some c → c.Good KL true f) {k : Nat}
    (h : (GoX.denO KL os [48] 100000 (fun n call ops => GoX.drawC KL n call ops) 100 27).go [.int .i64 k] .empty (fun v H => cond (GoX.isMark [v]) false ((GoX.denO KL os [48] 100000 (fun n call ops => GoX.drawC KL n call ops) 100 8).go [v] H (boxK k))) = true) : NewSays k := fun w => by
  have h := chain_box KL_ok (GoX.Tab.of_ng Try.prog 0 _) KL_named ho h (xs := [.int .i64 k]) (by simp [GoX.concs, GoX.conc]) w
  rw [show KL.P = Try.prog from GoX.Tab.of_P Try.prog 0 _] at h
  refine h.mono fun e w1 hh => ?_
  obtain ⟨x, he, hc, h2⟩ := hh
  refine ⟨x, he, hc, h2.mono fun e w' hh => ?_⟩
  obtain ⟨⟨u, J, χ, y, rfl, hq, hy, hwr⟩, hc2⟩ := hh
  obtain ⟨b, o, rfl, hlt, hcell⟩ := boxK_ok hq hy hwr
  exact ⟨⟨b, o, rfl, hlt, hcell⟩, hc2⟩
theorem orcL : ∀ f c, orcT f = some c → c.Good KL true f := orcT_good (GoX.Tab.of_P Try.prog 0 [])
set_option maxRecDepth 100000 in
theorem new_run0 : (GoX.denO KL (fun _ => none) [48] 100000 (fun n call ops => GoX.drawC KL n call ops) 100 27).go [.int .i64 (0 : Nat)] .empty (fun v H => cond (GoX.isMark [v]) false ((GoX.denO KL (fun _ => none) [48] 100000 (fun n call ops => GoX.drawC KL n call ops) 100 8).go [v] H (boxK 0))) = true := by decide +kernel
set_option maxRecDepth 100000 in
theorem new_run1 : (GoX.denO KL (fun _ => none) [48] 100000 (fun n call ops => GoX.drawC KL n call ops) 100 27).go [.int .i64 (1 : Nat)] .empty (fun v H => cond (GoX.isMark [v]) false ((GoX.denO KL (fun _ => none) [48] 100000 (fun n call ops => GoX.drawC KL n call ops) 100 8).go [v] H (boxK 1))) = true := by decide +kernel
set_option maxRecDepth 100000 in
theorem new_run2 : (GoX.denO KL orcT [48] 100000 (fun n call ops => GoX.drawC KL n call ops) 100 27).go [.int .i64 (2 : Nat)] .empty (fun v H => cond (GoX.isMark [v]) false ((GoX.denO KL orcT [48] 100000 (fun n call ops => GoX.drawC KL n call ops) 100 8).go [v] H (boxK 2))) = true := by decide +kernel
set_option maxRecDepth 100000 in
theorem new_run3 : (GoX.denO KL orcT [48] 100000 (fun n call ops => GoX.drawC KL n call ops) 100 27).go [.int .i64 (3 : Nat)] .empty (fun v H => cond (GoX.isMark [v]) false ((GoX.denO KL orcT [48] 100000 (fun n call ops => GoX.drawC KL n call ops) 100 8).go [v] H (boxK 3))) = true := by decide +kernel
set_option maxRecDepth 100000 in
theorem new_run4 : (GoX.denO KL orcT [48] 100000 (fun n call ops => GoX.drawC KL n call ops) 100 27).go [.int .i64 (4 : Nat)] .empty (fun v H => cond (GoX.isMark [v]) false ((GoX.denO KL orcT [48] 100000 (fun n call ops => GoX.drawC KL n call ops) 100 8).go [v] H (boxK 4))) = true := by decide +kernel
set_option maxRecDepth 100000 in
theorem new_run5 : (GoX.denO KL orcT [48] 100000 (fun n call ops => GoX.drawC KL n call ops) 100 27).go [.int .i64 (5 : Nat)] .empty (fun v H => cond (GoX.isMark [v]) false ((GoX.denO KL orcT [48] 100000 (fun n call ops => GoX.drawC KL n call ops) 100 8).go [v] H (boxK 5))) = true := by decide +kernel
set_option maxRecDepth 100000 in
theorem new_run6 : (GoX.denO KL orcT [48] 100000 (fun n call ops => GoX.drawC KL n call ops) 100 27).go [.int .i64 (6 : Nat)] .empty (fun v H => cond (GoX.isMark [v]) false ((GoX.denO KL orcT [48] 100000 (fun n call ops => GoX.drawC KL n call ops) 100 8).go [v] H (boxK 6))) = true := by decide +kernel
set_option maxRecDepth 100000 in
theorem new_run7 : (GoX.denO KL orcT [48] 100000 (fun n call ops => GoX.drawC KL n call ops) 100 27).go [.int .i64 (7 : Nat)] .empty (fun v H => cond (GoX.isMark [v]) false ((GoX.denO KL orcT [48] 100000 (fun n call ops => GoX.drawC KL n call ops) 100 8).go [v] H (boxK 7))) = true := by decide +kernel
set_option maxRecDepth 100000 in
theorem new_run8 : (GoX.denO KL orcT [48] 100000 (fun n call ops => GoX.drawC KL n call ops) 100 27).go [.int .i64 (8 : Nat)] .empty (fun v H => cond (GoX.isMark [v]) false ((GoX.denO KL orcT [48] 100000 (fun n call ops => GoX.drawC KL n call ops) 100 8).go [v] H (boxK 8))) = true := by decide +kernel
set_option maxRecDepth 100000 in
theorem new_run9 : (GoX.denO KL orcT [48] 100000 (fun n call ops => GoX.drawC KL n call ops) 100 27).go [.int .i64 (9 : Nat)] .empty (fun v H => cond (GoX.isMark [v]) false ((GoX.denO KL orcT [48] 100000 (fun n call ops => GoX.drawC KL n call ops) 100 8).go [v] H (boxK 9))) = true := by decide +kernel
set_option maxRecDepth 100000 in
theorem new_run10 : (GoX.denO KL orcT [48] 100000 (fun n call ops => GoX.drawC KL n call ops) 100 27).go [.int .i64 (10 : Nat)] .empty (fun v H => cond (GoX.isMark [v]) false ((GoX.denO KL orcT [48] 100000 (fun n call ops => GoX.drawC KL n call ops) 100 8).go [v] H (boxK 10))) = true := by decide +kernel
set_option maxRecDepth 100000 in
theorem new_run11 : (GoX.denO KL orcT [48] 100000 (fun n call ops => GoX.drawC KL n call ops) 100 27).go [.int .i64 (11 : Nat)] .empty (fun v H => cond (GoX.isMark [v]) false ((GoX.denO KL orcT [48] 100000 (fun n call ops => GoX.drawC KL n call ops) 100 8).go [v] H (boxK 11))) = true := by decide +kernel
set_option maxRecDepth 100000 in
theorem new_run12 : (GoX.denO KL orcT [48] 100000 (fun n call ops => GoX.drawC KL n call ops) 100 27).go [.int .i64 (12 : Nat)] .empty (fun v H => cond (GoX.isMark [v]) false ((GoX.denO KL orcT [48] 100000 (fun n call ops => GoX.drawC KL n call ops) 100 8).go [v] H (boxK 12))) = true := by decide +kernel
set_option maxRecDepth 100000 in
theorem new_run13 : (GoX.denO KL orcT [48] 100000 (fun n call ops => GoX.drawC KL n call ops) 100 27).go [.int .i64 (13 : Nat)] .empty (fun v H => cond (GoX.isMark [v]) false ((GoX.denO KL orcT [48] 100000 (fun n call ops => GoX.drawC KL n call ops) 100 8).go [v] H (boxK 13))) = true := by decide +kernel
set_option maxRecDepth 100000 in
theorem new_run14 : (GoX.denO KL orcT [48] 100000 (fun n call ops => GoX.drawC KL n call ops) 100 27).go [.int .i64 (14 : Nat)] .empty (fun v H => cond (GoX.isMark [v]) false ((GoX.denO KL orcT [48] 100000 (fun n call ops => GoX.drawC KL n call ops) 100 8).go [v] H (boxK 14))) = true := by decide +kernel
set_option maxRecDepth 100000 in
theorem new_run15 : (GoX.denO KL orcT [48] 100000 (fun n call ops => GoX.drawC KL n call ops) 100 27).go [.int .i64 (15 : Nat)] .empty (fun v H => cond (GoX.isMark [v]) false ((GoX.denO KL orcT [48] 100000 (fun n call ops => GoX.drawC KL n call ops) 100 8).go [v] H (boxK 15))) = true := by decide +kernel
set_option maxRecDepth 100000 in
theorem new_run16 : (GoX.denO KL orcT [48] 100000 (fun n call ops => GoX.drawC KL n call ops) 100 27).go [.int .i64 (16 : Nat)] .empty (fun v H => cond (GoX.isMark [v]) false ((GoX.denO KL orcT [48] 100000 (fun n call ops => GoX.drawC KL n call ops) 100 8).go [v] H (boxK 16))) = true := by decide +kernel
set_option maxRecDepth 100000 in
theorem new_run17 : (GoX.denO KL orcT [48] 100000 (fun n call ops => GoX.drawC KL n call ops) 100 27).go [.int .i64 (17 : Nat)] .empty (fun v H => cond (GoX.isMark [v]) false ((GoX.denO KL orcT [48] 100000 (fun n call ops => GoX.drawC KL n call ops) 100 8).go [v] H (boxK 17))) = true := by decide +kernel
set_option maxRecDepth 100000 in
theorem new_run18 : (GoX.denO KL orcT [48] 100000 (fun n call ops => GoX.drawC KL n call ops) 100 27).go [.int .i64 (18 : Nat)] .empty (fun v H => cond (GoX.isMark [v]) false ((GoX.denO KL orcT [48] 100000 (fun n call ops => GoX.drawC KL n call ops) 100 8).go [v] H (boxK 18))) = true := by decide +kernel
set_option maxRecDepth 100000 in
theorem new_run19 : (GoX.denO KL orcT [48] 100000 (fun n call ops => GoX.drawC KL n call ops) 100 27).go [.int .i64 (19 : Nat)] .empty (fun v H => cond (GoX.isMark [v]) false ((GoX.denO KL orcT [48] 100000 (fun n call ops => GoX.drawC KL n call ops) 100 8).go [v] H (boxK 19))) = true := by decide +kernel
theorem new_says : ∀ k : Nat, k < 20 → NewSays k
  | 0, _ => new_of (fun _ _ h => by cases h) new_run0
  | 1, _ => new_of (fun _ _ h => by cases h) new_run1
  | 2, _ => new_of orcL new_run2
  | 3, _ => new_of orcL new_run3
  | 4, _ => new_of orcL new_run4
  | 5, _ => new_of orcL new_run5
  | 6, _ => new_of orcL new_run6
  | 7, _ => new_of orcL new_run7
  | 8, _ => new_of orcL new_run8
  | 9, _ => new_of orcL new_run9
  | 10, _ => new_of orcL new_run10
  | 11, _ => new_of orcL new_run11
  | 12, _ => new_of orcL new_run12
  | 13, _ => new_of orcL new_run13
  | 14, _ => new_of orcL new_run14
  | 15, _ => new_of orcL new_run15
  | 16, _ => new_of orcL new_run16
  | 17, _ => new_of orcL new_run17
  | 18, _ => new_of orcL new_run18
  | 19, _ => new_of orcL new_run19
  | k + 20, h => absurd h (by omega)
end Go.Proofs.Ytgojieabeaalcaa
