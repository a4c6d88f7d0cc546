/- From a contract beside leavers to the run of the whole call. -/
import Derived.Test.YtkhmooemgjichaaHo
namespace Go.Proofs.Ytkhmooemgjichaa
open Go Go.Conc
variable {P : Program}

theorem at_end {fr : Frame} {w : World} {v : Value} {fn : Func} {t : Tmp} (hl : fr.leaving P w (.returned v)) (hf : P.funcs[fr.fn]? = some fn) (hres : fn.results = #[.tmp t]) (hi : P.inits.idxOf? fr.fn = none) :
    stepG P true (G fr []) w = .ended (.done v) w #[] := by
  obtain ⟨hm, hd, hk, fn', hf', hr⟩ := hl
  obtain rfl : fn = fn' := Option.some.inj (hf.symm.trans hf')
  have he : (results fn fr.tmps).events P w #[] = #[] := by simp [results, hres]
  simp [G, stepG, unwind, doReturn, hm, hd, hk, hf, hi, hr, he, seen, GStep.after]

theorem run_of_B {f : FuncId} {args : Array Value} {W : World} {Rv : Value → World → Prop} {fn : Func} {t : Tmp} (h : CallsB P f args W Rv) (hB : ∀ v w τ d, Rv v w → Rv v (On w τ d)) (hf : P.funcs[f]? = some fn) (hres : fn.results = #[.tmp t]) (hi : P.inits.idxOf? f = none) :
    ∃ M last o w' t', runNT P (M + 1) (solo (G (Frame.enter P f args .normal) []) W) #[] = (.ended o w', t') ∧ runN P M (solo (G (Frame.enter P f args .normal) []) W) = .next last ∧
      step P last = .ended o w' ∧ Conc.Good P (fun v w' => Rv v w' ∧ w'.tape = W.tape) last o w' t' := by
  obtain ⟨N, gs', g', w', sl', T', q', B', e, k0, ⟨fr, v, rfl, rfl, hl, _, hv⟩, k2, k3, k4⟩ := h [] (fun _ hx => by cases hx) W.drawn #[G (Frame.enter P f args .normal) []] none #[] (fun _ => 0) 0 rfl (leavers_one _ _) past_nil
  obtain ⟨M, last, o, u, t', r1, r2, r3, r4⟩ := beside_ends (P := P) (Shun := fun _ => False) (B := B') (D := fun _ _ _ => False) (Post := fun v u => Rv v u ∧ u.tape = W.tape) (sl := sl') (n := 0) (fun _ _ _ x => x.elim) k0 k2 k3 (Goes.stop fun w₁ h₁ => by
    obtain ⟨d, rfl⟩ := h₁
    exact ⟨rfl, v, #[], at_end (leaving_on hl w'.tape d) hf hres hi, by simp, hB _ _ w'.tape d hv, k4⟩)
  have e' : runNT P N (solo (G (Frame.enter P fr.fn args .normal) []) W) #[] = (.next (crowd gs' w' sl'), T') := e
  have e1 : runN P N (solo (G (Frame.enter P fr.fn args .normal) []) W) = .next (crowd gs' w' sl') := by rw [← runNT_fst P _ _ #[], e']
  refine ⟨N + M, last, o, u, t', ?_, ?_, r3, r4⟩
  · rw [Nat.add_assoc, runNT_add, e']; exact r1
  · rw [runN_add, e1]; exact r2
end Go.Proofs.Ytkhmooemgjichaa
