/- Goroutine 0's step, alone and beside others that do not wait: the same. -/
import Derived.Test.YtkhmooemgjichaaGz
import Derived.Conc.CrowdComm
import Derived.Conc.TokenTrace
import Derived.Lone
import Derived.Conc.Token
namespace Go.Proofs.Ytkhmooemgjichaa

section
open Go Go.Conc
variable {P : Program}

def Calm (gs : Array Goroutine) : Prop := ∀ g ∈ gs, g.status ≠ .blocked
theorem Calm.partners {gs : Array Goroutine} (h : Calm gs) (r : Nat) (send : Bool) : partners gs r send = [] :=
  partners_nil fun j g hj => offersAt_of_not_blocked (h g (by obtain ⟨hl, e⟩ := Array.getElem?_eq_some_iff.1 hj; rw [← e]; exact Array.getElem_mem hl)) r send

def restOf (sl : Option (Nat × Nat)) : Rest := { timers := #[], alone := none, slice := sl }
/-- What stands in a trace behind a communication: goroutine 0's own words, that turn no deafness and touch nothing. -/
def Soft (ops : Array MemOp) : Prop := ∀ op ∈ ops, op.g = 0 ∧ (∀ d, deafStep 0 d op = d) ∧ op.act.touch? = none

def CommDead (P : Program) (g : Goroutine) (cs : Array CommCase) (b : Bool) (sh : CommShape) (w : World) : Prop :=
  ∀ gs sl, Calm gs → (∃ o w' ops, communicate P (restOf sl) gs 0 g cs b sh w = (.ended o w', ops)) ∨
    ∃ g' w' ops, communicate P (restOf sl) gs 0 g cs b sh w = (.next { world := w', gs := gs.setIfInBounds 0 g', rest := restOf sl }, ops) ∧ g'.status = .blocked
def CommFits (P : Program) (g : Goroutine) (cs : Array CommCase) (b : Bool) (sh : CommShape) (w : World) : Prop :=
  ∃ m g' w' ops, w'.tape = w.tape ∧ w'.drawn = w.drawn + m ∧ g'.status = .running ∧ PlainG g' ∧ Soft ops ∧
    ∀ gs sl τ d, Calm gs → Agr τ d w m → communicate P (restOf sl) gs 0 g cs b sh (On w τ d) = (.next { world := On w' τ (d + m), gs := gs.setIfInBounds 0 g', rest := restOf sl }, ops)

theorem ways_calm {gs : Array Goroutine} (h : Calm gs) (w : World) (τ : Tp) (d : Nat) (c : CommCase) : ways (On w τ d) gs c = ways w #[] c := by
  have hh : (On w τ d).heap = w.heap := rfl
  have h0 : ∀ r s, partners #[] r s = [] := fun _ _ => rfl
  unfold ways
  simp only [hh, h.partners, h0]
theorem ways_plain (w : World) (c : CommCase) : ∀ x ∈ ways w #[] c, x = .buffer ∨ x = .closed ∨ x = .sendClosed := by
  have h0 : ∀ r s, partners #[] r s = [] := fun _ _ => rfl
  unfold ways
  simp only [h0]
  intro x hx
  split at hx
  · split at hx
    · split at hx
      · simp at hx; simp [hx]
      · split at hx
        · simp at hx; simp [hx]
        · cases hx
    · split at hx
      · simp at hx; simp [hx]
      · split at hx
        · simp at hx; simp [hx]
        · cases hx
    · cases hx
  · cases hx

theorem soft_nil : Soft #[] := fun op h => by simp at h
theorem plain_comm {g : Goroutine} (h : PlainG g) (cs : Array CommCase) (sh : CommShape) (k : Int) (v : Value) (ok : Bool) : PlainG (g.finishComm P cs sh k v ok) := ⟨plain_finish h.1 _, h.2⟩

theorem run_loc {α : Type} {Q : α → Prop} {x : Sem α} (hx : Good P Q x) {w w1 : World} {a : α} (h : x.run P w = .ok a w1) :
    Q a ∧ ∃ m, w1.tape = w.tape ∧ w1.drawn = w.drawn + m ∧ ∀ τ d, Agr τ d w m → x.run P (On w τ d) = .ok a (On w1 τ (d + m)) := by
  have e : ∀ w, x.run P w = (x.runT P w #[]).1 := fun w => (Sem.runT_fst P _ _ #[]).symm
  rw [e] at h
  rcases hx w #[] with hE | hF
  · rw [h] at hE; exact hE.elim
  · obtain ⟨m, h1, h2, h3⟩ := hF.loc
    rw [h] at h1 h2
    refine ⟨hF.out a w1 h, m, h1, h2, fun τ d ha => ?_⟩
    rw [e, h3 τ d ha, h]
    rfl
theorem run_loc_panic {α : Type} {Q : α → Prop} {x : Sem α} (hx : Good P Q x) {w w1 : World} {v : Value} (h : x.run P w = .halt (.panic v) w1) :
    ∃ m, w1.tape = w.tape ∧ w1.drawn = w.drawn + m ∧ ∀ τ d, Agr τ d w m → x.run P (On w τ d) = .halt (.panic v) (On w1 τ (d + m)) := by
  have e : ∀ w, x.run P w = (x.runT P w #[]).1 := fun w => (Sem.runT_fst P _ _ #[]).symm
  rw [e] at h
  rcases hx w #[] with hE | hF
  · rw [h] at hE; exact hE.elim
  · obtain ⟨m, h1, h2, h3⟩ := hF.loc
    rw [h] at h1 h2
    refine ⟨m, h1, h2, fun τ d ha => ?_⟩
    rw [e, h3 τ d ha, h]
    rfl

def Pl (x : Way) : Prop := x = .buffer ∨ x = .closed ∨ x = .sendClosed
theorem pick_way (R : List (Nat × CommCase × List Way)) (h : ∀ x ∈ R, ∀ y ∈ x.2.2, Pl y) (a b : Nat) : Pl ((R.getD a (0, default, [])).2.2.getD b .closed) := by
  rw [List.getD_eq_getElem?_getD, List.getD_eq_getElem?_getD]
  cases ha : R[a]? with
  | none => exact .inr (.inl rfl)
  | some x =>
    simp only [Option.getD_some]
    cases hb : x.2.2[b]? with
    | none => exact .inr (.inl rfl)
    | some y => exact h x (List.mem_of_getElem? ha) y (List.mem_of_getElem? hb)
theorem ways_calm' {gs : Array Goroutine} (h : Calm gs) (w : World) (c : CommCase) : ways w gs c = ways w #[] c := ways_calm h w w.tape w.drawn c

theorem comm_alone (g : Goroutine) (hg : PlainG g) (hr : g.status = .running) (cs : Array CommCase) (b : Bool) (sh : CommShape) (w : World) : CommDead P g cs b sh w ∨ CommFits P g cs b sh w := by
  have hh : ∀ τ d, (On w τ d).heap = w.heap := fun _ _ => rfl
  by_cases hD : CommDead P g cs b sh w
  · exact .inl hD
  right
  simp only [CommDead, Classical.not_forall, not_or] at hD
  obtain ⟨gs0, sl0, hc0, hne, hnb⟩ := hD
  rcases hcm : communicate P (restOf sl0) gs0 0 g cs b sh w with ⟨r, ops⟩
  have hne' : ∀ o w', r ≠ .ended o w' := fun o w' e => hne ⟨o, w', ops, by rw [hcm, e]⟩
  have hnb' : ∀ g' w', r = .next { world := w', gs := gs0.setIfInBounds 0 g', rest := restOf sl0 } → g'.status ≠ .blocked := fun g' w' e hb => hnb ⟨g', w', ops, by rw [hcm, e], hb⟩
  clear hne hnb
  unfold communicate at hcm
  simp only [ways_calm' hc0, hc0.partners] at hcm
  split at hcm
  · obtain ⟨rfl, _⟩ := Prod.mk.inj hcm; exact absurd rfl (hne' _ _)
  rename_i hill
  split at hcm
  · rename_i hemp
    split at hcm
    · split at hcm
      · obtain ⟨rfl, _⟩ := Prod.mk.inj hcm; exact absurd rfl (hnb' _ _ rfl)
      · obtain ⟨rfl, _⟩ := Prod.mk.inj hcm; exact absurd rfl (hne' _ _)
    · rename_i hb
      refine ⟨0, g.finishComm P cs sh (-1) undef false, w, #[], rfl, rfl, rfl, plain_comm hg _ _ _ _ _, soft_nil, fun gs sl τ d hc _ => ?_⟩
      unfold communicate
      simp only [ways_calm hc, hc.partners, hh]
      rw [if_neg hill, if_pos hemp, if_neg hb]
      rfl
  rename_i hemp
  split at hcm
  · obtain ⟨rfl, _⟩ := Prod.mk.inj hcm; exact absurd rfl (hne' _ _)
  rename_i k c way w1 hpick
  obtain ⟨hq, m, ht, hd, hloc⟩ := run_loc (Q := fun x => Pl x.2.2) (Good.bind' (inferInstance : Gd P (choose _)).good fun a => Good.bind' (inferInstance : Gd P (choose _)).good fun b => Good.pure (pick_way _ (fun x hx y hy => by
    obtain ⟨z, hz, rfl⟩ := List.mem_map.1 (List.mem_filter.1 hx).1
    exact ways_plain _ _ y hy) _ _)) hpick
  have hh1 : ∀ τ d, (On w1 τ d).heap = w1.heap := fun _ _ => rfl
  split at hcm
  · split at hcm
    · rename_i v w2 hp
      obtain ⟨m2, ht2, hd2, hloc2⟩ := run_loc_panic (Q := fun _ => True) (good_runtimePanic _) hp
      refine ⟨m + m2, { g with frame := g.frame.raise [{ v := v, recovered := false }] }, w2, #[], ht2.trans ht, by rw [hd2, hd]; omega, hr, ⟨by rw [raise_todo]; exact hg.1, hg.2⟩, soft_nil, fun gs sl τ d hc ha => ?_⟩
      unfold communicate
      simp only [ways_calm hc, hc.partners, hh]
      rw [if_neg hill, if_neg hemp]
      simp only [hloc τ d ha.fst]
      rw [hloc2 τ (d + m) (Agr.snd ha ht hd), Nat.add_assoc]
    · obtain ⟨rfl, _⟩ := Prod.mk.inj hcm; exact absurd rfl (hne' _ _)
  · refine ⟨m, g.finishComm P cs sh ?k0 ?v0 ?b0, w1, ?ops0, ht, hd, rfl, plain_comm hg _ _ _ _ _, ?soft, fun gs sl τ d hc ha => ?main⟩
    case main =>
      unfold communicate
      simp only [ways_calm hc, hc.partners, hh]
      rw [if_neg hill, if_neg hemp]
      simp only [hloc τ d ha]
      rfl
    case soft =>
      intro op hop
      simp only [List.mem_toArray, List.mem_cons, List.not_mem_nil, or_false] at hop
      subst hop
      exact ⟨rfl, fun _ => rfl, rfl⟩
  · rename_i hheap hsend
    refine ⟨m, g.finishComm P cs sh ?k1 ?v1 ?b1, { w1 with heap := w1.heap.setIfInBounds ?r1 ?o1 }, ?ops1, ?ht, ?hd, rfl, plain_comm hg _ _ _ _ _, ?soft, fun gs sl τ d hc ha => ?main⟩
    case main =>
      unfold communicate
      simp only [ways_calm hc, hc.partners, hh]
      rw [if_neg hill, if_neg hemp]
      simp only [hloc τ d ha]
      simp only [hh1, hheap, hsend]
      rfl
    case ht => exact ht
    case hd => exact hd
    case soft =>
      intro op hop
      simp only [List.mem_toArray, List.mem_cons, List.not_mem_nil, or_false] at hop
      rcases hop with rfl | rfl <;> exact ⟨rfl, fun _ => rfl, rfl⟩
  · rename_i hheap hsend
    refine ⟨m, g.finishComm P cs sh ?k2 ?v2 ?b2, { w1 with heap := w1.heap.setIfInBounds ?r2 ?o2 }, ?ops2, ?ht, ?hd, rfl, plain_comm hg _ _ _ _ _, ?soft, fun gs sl τ d hc ha => ?main⟩
    case main =>
      unfold communicate
      simp only [ways_calm hc, hc.partners, hh]
      rw [if_neg hill, if_neg hemp]
      simp only [hloc τ d ha]
      simp only [hh1, hheap, hsend]
      rfl
    case ht => exact ht
    case hd => exact hd
    case soft =>
      intro op hop
      simp only [List.mem_toArray, List.mem_cons, List.not_mem_nil, or_false] at hop
      rcases hop with rfl | rfl <;> exact ⟨rfl, fun _ => rfl, rfl⟩
  · rcases hq with e | e | e <;> cases e
  · rcases hq with e | e | e <;> cases e
  · obtain ⟨rfl, _⟩ := Prod.mk.inj hcm; exact absurd rfl (hne' _ _)

end

open Go Go.Conc
variable {P : Program}

/-- Everybody but goroutine 0 runs or has ended. -/
def Easy (gs : Array Goroutine) : Prop := ∀ i g, 0 < i → gs[i]? = some g → g.status = .running ∨ g.status = .finished

structure Own1 (P : Program) (g : Goroutine) (w : World) (g' : Goroutine) (w' : World) (m : Nat) (ops : Array MemOp) : Prop where
  run : g'.status = .running
  plain : PlainG g'
  tape : w'.tape = w.tape
  drawn : w'.drawn = w.drawn + m
  own : ∀ op ∈ ops, op.g = 0
  deaf : ∀ t : Trace, Deaf (t ++ ops) 0 = Deaf t 0
  does : ∀ gs sl τ d, Easy gs → gs[0]? = some g → Agr τ d w m → ∃ gs', runT P (crowd gs (On w τ d) sl) 0 = (.next (crowd gs' (On w' τ (d + m)) sl), ops) ∧ gs'[0]? = some g' ∧ (∀ i, 0 < i → gs'[i]? = gs[i]?) ∧ gs'.size = gs.size

def LostAt (P : Program) (m : Machine) : Prop := ∀ n g' w', g'.status = .running → runN P n m ≠ .next (solo g' w')
theorem LostAt.next {m m' : Machine} (h : step P m = .next m') (h' : LostAt P m') (hne : ∀ g' w', g'.status = .running → m ≠ solo g' w') : LostAt P m := by
  intro n g' w' hg e
  cases n with
  | zero => exact hne g' w' hg (Stepped.next.inj e)
  | succ n => rw [runN, h] at e; exact h' n g' w' hg e
theorem LostAt.ended {m : Machine} {o : Outcome} {w : World} (h : step P m = .ended o w) (hne : ∀ g' w', g'.status = .running → m ≠ solo g' w') : LostAt P m := by
  intro n g' w' hg e
  cases n with
  | zero => exact hne g' w' hg (Stepped.next.inj e)
  | succ n => rw [runN, h] at e; cases e
theorem solo_inj {g g' : Goroutine} {w w' : World} (h : solo g w = solo g' w') : g = g' ∧ w = w' := by
  have h1 : (solo g w).gs = (solo g' w').gs := by rw [h]
  have h2 : (solo g w).world = (solo g' w').world := by rw [h]
  exact ⟨by simpa [solo] using h1, h2⟩
theorem LostAt.two {m : Machine} (h : 2 ≤ m.gs.size) : LostAt P m := by
  intro n g' w' _ e
  have : runNT P n m #[] = (.next (solo g' w'), (runNT P n m #[]).2) := Prod.ext (by rw [runNT_fst, e]) rfl
  have := runNT_size P n m _ _ _ this
  simp [solo] at this
  omega
theorem solo_asleep {g : Goroutine} {w : World} (h : g.status = .blocked ∨ g.status = .finished) : ∃ o w', step P (solo g w) = .ended o w' := by
  have hm : ∃ o w', move P (solo g w) = .machine (.ended o w') := by
    rcases h with h | h
    all_goals
      simp [move, ask, askOn, solo, runnable_eq, due, ahead, Goroutine.canRun, List.range_succ, pure, h]
      split <;> exact ⟨_, _, rfl⟩
  obtain ⟨o, w', e⟩ := hm
  exact ⟨o, w', by rw [step, stepT, e]⟩
theorem solo_waiting {g : Goroutine} {w : World} (h : g.status = .waiting) : step P (solo g w) = .next (solo g w) := by
  have hm : move P (solo g w) = .machine (.next (solo g w)) := by
    simp [move, ask, askOn, solo, runnable_eq, due, ahead, Goroutine.canRun, List.range_succ, pure, h]
  rw [step, stepT, hm]
theorem lost_status {g : Goroutine} {w : World} (h : g.status = .blocked ∨ g.status = .waiting ∨ g.status = .finished) : LostAt P (solo g w) := by
  have hne : ∀ g' w', g'.status = .running → solo g w ≠ solo g' w' := fun g' w' hr e => by
    obtain ⟨rfl, _⟩ := solo_inj e
    rcases h with h | h | h <;> rw [h] at hr <;> cases hr
  rcases h with h | h | h
  · obtain ⟨o, w', e⟩ := solo_asleep (P := P) (w := w) (.inl h); exact LostAt.ended e hne
  · intro n
    induction n with
    | zero => exact fun g' w' hr e => hne g' w' hr (Stepped.next.inj e)
    | succ n ih => intro g' w' hr e; rw [runN, solo_waiting h] at e; exact ih g' w' hr e
  · obtain ⟨o, w', e⟩ := solo_asleep (P := P) (w := w) (.inr h); exact LostAt.ended e hne

def LostNext (P : Program) (m : Machine) : Prop := (∃ o w, step P m = .ended o w) ∨ ∃ m', step P m = .next m' ∧ LostAt P m'
theorem LostNext.no {m : Machine} (h : LostNext P m) {n : Nat} {g' : Goroutine} {w' : World} (hr : g'.status = .running) : runN P (n + 1) m ≠ .next (solo g' w') := by
  rcases h with ⟨o, w, e⟩ | ⟨m', e, h⟩
  · rw [runN, e]; exact fun x => by cases x
  · rw [runN, e]; exact h n g' w' hr

theorem Easy.woken {gs : Array Goroutine} (h : Easy gs) {i : Nat} (hi : 0 < i) (a a' : Goroutine) (w : World) : (gs.map (woken P a a' w))[i]? = gs[i]? := by
  rw [Array.getElem?_map]
  cases e : gs[i]? with
  | none => rfl
  | some y => simp only [Option.map_some, woken_of_again (again_of_running (h i y hi e) w)]
theorem Easy.calm {gs : Array Goroutine} (h : Easy gs) : Calm (gs.setIfInBounds 0 ph) := by
  intro g hg
  obtain ⟨i, hi, rfl⟩ := Array.mem_iff_getElem.1 hg
  have e : (gs.setIfInBounds 0 ph)[i]? = some (gs.setIfInBounds 0 ph)[i] := Array.getElem?_eq_getElem hi
  rcases Nat.eq_zero_or_pos i with rfl | hpos
  · rw [Array.getElem?_setIfInBounds_self_of_lt (by simpa using hi)] at e
    rw [← Option.some.inj e]
    exact fun x => by cases x
  · rw [Array.getElem?_setIfInBounds_ne (by omega)] at e
    rcases h i _ hpos e with x | x <;> rw [x] <;> exact fun y => by cases y

theorem deaf_mild {es : Array Event} (h : Mild es) (fn : FuncId) (pos : String) (t : Trace) : Deaf (t ++ MemOp.ofEvents 0 fn pos es) 0 = Deaf t 0 := by rw [Deaf_own, h.1]
theorem own_ofEvents {fn : FuncId} {pos : String} {es : Array Event} : ∀ op ∈ MemOp.ofEvents 0 fn pos es, op.g = 0 := fun op hop => by
  obtain ⟨e, _, rfl⟩ := Go.Conc.mem_ofEvents hop; rfl

section
variable {gs : Array Goroutine} {sl : Option (Nat × Nat)} {g g₂ : Goroutine} {c : Nat} {w W : World} {es : Array Event}
theorem coro_zero (h0 : gs[0]? = some g) (h : stepG P true g w = .coroswitch g₂ c true W es) (hx : W.heap[c]? = some (.coro (some 0))) :
    runT P (crowd gs w sl) 0 = (.next (crowd (gs.setIfInBounds 0 { g₂ with status := .running }) { W with heap := W.heap.setIfInBounds c (.coro none) } sl), MemOp.ofEvents 0 g.frame.fn g.frame.place es) := by
  obtain ⟨hlt, rfl⟩ := Array.getElem?_eq_some_iff.1 h0
  have hsw := swapAt_of_lt hlt { (default : Goroutine) with status := .finished }
  show runT P { world := w, gs := gs, rest := { timers := #[], alone := none, slice := sl } } 0 = _
  unfold runT
  have hb : ((0 : Nat) == 0) = true := rfl
  simp only [hsw, hb, h, GStep.es, hx, if_true, set_setIfInBounds hlt, crowd]
  congr 3
  apply Array.ext_getElem?
  intro i
  rw [Array.getElem?_modify]
  by_cases hi : 0 = i
  · subst hi
    rw [Array.getElem?_setIfInBounds_self_of_lt hlt, Array.getElem?_setIfInBounds_self_of_lt hlt]
    simp
  · rw [if_neg hi, Array.getElem?_setIfInBounds_ne hi, Array.getElem?_setIfInBounds_ne hi]
theorem coro_succ {k : Nat} (h : stepG P true g w = .coroswitch g₂ c true W es) (hx : W.heap[c]? = some (.coro (some (k + 1)))) :
    (runT P (crowd #[g] w none) 0).1 = .next (solo { g₂ with status := .finished } { W with heap := W.heap.setIfInBounds c (.coro none) }) := by
  simp [runT, crowd, solo, Array.swapAt!, Array.swapAt, h, hx]
theorem coro_else (h : stepG P true g w = .coroswitch g₂ c true W es) (hx : ∀ h, W.heap[c]? ≠ some (.coro h)) :
    ∃ o w', (runT P (crowd #[g] w none) 0).1 = .ended o w' := by
  have hsw := swapAt_of_lt (gs := #[g]) (i := 0) (by simp) { (default : Goroutine) with status := .finished }
  have e : (#[g] : Array Goroutine)[0] = g := rfl
  rw [e] at hsw
  refine ⟨.stuck "coroswitch: no coroutine" "", W, ?_⟩
  show (runT P { world := w, gs := #[g], rest := { timers := #[], alone := none, slice := none } } 0).1 = _
  unfold runT
  have hb : ((0 : Nat) == 0) = true := rfl
  simp only [hsw, hb, h, GStep.es]
  split
  · rename_i he; exact absurd he (hx _)
  · rename_i he; exact absurd he (hx _)
  · rfl
theorem coro_none (g₂ : Goroutine) (hg : PlainG g₂) (g : Goroutine) (c : Nat) (w₁ : World) (es : Array Event) (hx : w₁.heap[c]? = some (.coro none)) :
    ∃ gd : Goroutine, gd.status = .running ∧ PlainG gd ∧ ∀ gs sl w W, gs[0]? = some g → stepG P true g w = .coroswitch g₂ c true W es → W.heap = w₁.heap →
      runT P (crowd gs w sl) 0 = (.next (crowd (gs.setIfInBounds 0 gd) W sl), MemOp.ofEvents 0 g.frame.fn g.frame.place es) := by
  obtain ⟨gd, hgd⟩ : ∃ gd : Goroutine, gd = { frame := g₂.frame, callers := [], status := .running, dying := some { todo := [], texts := [], calling := false, pending := "", runtimeError := false, fatal := some { pieces := [] ++ bytes "fatal error: " :: indentedPieces (bytes "coroswitch on exited coro") ++ [bytes "\n"], text := "coroswitch on exited coro", whole := false, begun := false } } } := ⟨_, rfl⟩
  refine ⟨gd, by rw [hgd], by rw [hgd]; exact ⟨hg.1, fun _ hx => by cases hx⟩, fun gs sl w W h0 h hW => ?_⟩
  · obtain ⟨hlt, rfl⟩ := Array.getElem?_eq_some_iff.1 h0
    have hsw := swapAt_of_lt hlt { (default : Goroutine) with status := .finished }
    show runT P { world := w, gs := gs, rest := { timers := #[], alone := none, slice := sl } } 0 = _
    unfold runT
    have hb : ((0 : Nat) == 0) = true := rfl
    rw [← hW] at hx
    simp only [hsw, hb, h, GStep.es, hx, set_setIfInBounds hlt, endThrow, dieOf, crowd, hgd]
end

theorem own_step (hP : PlainP P) {g : Goroutine} (hg : PlainG g) (hr : g.status = .running) (w : World) : LostNext P (solo g w) ∨ ∃ g' w' m ops, Own1 P g w g' w' m ops := by
  have hst : step P (solo g w) = (runT P (solo g w) 0).1 := by rw [step, stepT_solo hr]
  have hgs : (#[g] : Array Goroutine)[0]? = some g := rfl
  have hcr : solo g w = crowd #[g] w none := rfl
  rcases good_stepG hP g hg w with hE | hF
  · left
    cases hs : stepG P true g w with
    | ended o w' es =>
      refine .inl ⟨o, w', ?_⟩
      rw [hst, hcr, runT_many_ended (P := P) (i := 0) hgs (show stepG P (0 == 0) g w = _ from hs)]
    | go g' w' es =>
      simp only [hs] at hE
      refine .inr ⟨solo g' w', ?_, lost_status (hE.elim .inl fun x => .inr x)⟩
      rw [hst, runT_solo_go hs]
    | _ => simp only [hs] at hE; exact hE.elim
  · obtain ⟨m, h1, h2, h3⟩ := hF.loc
    have hmild := hF.mild
    have hkind := hF.kind
    cases hs : stepG P true g w with
    | go g' w' es =>
      simp only [hs] at h1 h2 h3 hmild hkind
      refine .inr ⟨g', w', m, MemOp.ofEvents 0 g.frame.fn g.frame.place es, hkind.1, hkind.2, h1, h2, own_ofEvents, deaf_mild hmild _ _, fun gs sl τ d he h0 ha => ?_⟩
      have hlt : 0 < gs.size := (Array.getElem?_eq_some_iff.1 h0).1
      refine ⟨_, runT_crowd_go (P := P) (i := 0) h0 (show stepG P (0 == 0) g _ = _ from h3 τ d ha), by rw [Array.getElem?_setIfInBounds_self_of_lt (by simpa using hlt)], fun i hi => ?_, by simp⟩
      rw [Array.getElem?_setIfInBounds_ne (by omega), he.woken hi]
    | spawn g' c w' es =>
      refine .inl (.inr ⟨_, by rw [hst, runT_solo_spawn hs], LostAt.two (by simp [duo])⟩)
    | newcoro g' c dd w' es =>
      left
      have : ∃ m', (runT P (solo g w) 0).1 = .next m' ∧ 2 ≤ m'.gs.size := by
        simp [runT, solo, Array.swapAt!, Array.swapAt, hs]
      obtain ⟨m', e, h⟩ := this
      exact .inr ⟨m', by rw [hst, e], LostAt.two h⟩
    | comm g₂ cs b sh w₁ es =>
      simp only [hs] at h1 h2 h3 hmild hkind
      have hrun : ∀ gs sl w w₁, gs[0]? = some g → stepG P true g w = .comm g₂ cs b sh w₁ es → runT P (crowd gs w sl) 0 = _ := fun gs sl w w₁ h0 h => runT_crowd_comm (P := P) (i := 0) (sl := sl) h0 (show stepG P (0 == 0) g _ = _ from h)
      have hsolo := hrun #[g] none w w₁ hgs hs
      have hph : (#[g] : Array Goroutine).setIfInBounds 0 ph = #[ph] := rfl
      have hcalm : Calm #[ph] := fun x hx => by
        rw [List.mem_toArray, List.mem_singleton] at hx; subst hx; exact fun h => by cases h
      rcases comm_alone (P := P) g₂ hkind.2 hkind.1 cs b sh w₁ with hD | ⟨m2, g', w', ops, k1, k2, k3, k4, k5, k6⟩
      · left
        rcases hD #[ph] none hcalm with ⟨o, w', ops, e⟩ | ⟨g', w', ops, e, hb⟩
        · refine .inl ⟨o, w', ?_⟩
          rw [hst, hcr, hsolo, hph]
          show (communicate P (restOf none) #[ph] 0 g₂ cs b sh w₁).1 = _
          rw [e]
        · refine .inr ⟨solo g' w', ?_, lost_status (.inl hb)⟩
          rw [hst, hcr, hsolo, hph]
          show (communicate P (restOf none) #[ph] 0 g₂ cs b sh w₁).1 = _
          rw [e]
          rfl
      · refine .inr ⟨g', w', m + m2, MemOp.ofEvents 0 g.frame.fn g.frame.place es ++ ops, k3, k4, k1.trans h1, by rw [k2]; dsimp only [sw] at h2; rw [h2]; omega, fun op hop => ?_, fun t => ?_, fun gs sl τ d he h0 ha => ?_⟩
        · exact (Array.mem_append.1 hop).elim (own_ofEvents op) fun h => (k5 op h).1
        · rw [← Array.append_assoc, Deaf_quiet fun op hop => (k5 op hop).2.1]; exact deaf_mild (es := es) hmild _ _ t
        · have hlt : 0 < gs.size := (Array.getElem?_eq_some_iff.1 h0).1
          refine ⟨gs.setIfInBounds 0 g', ?_, by rw [Array.getElem?_setIfInBounds_self_of_lt hlt], fun i hi => by rw [Array.getElem?_setIfInBounds_ne (by omega)], by simp⟩
          rw [hrun gs sl _ _ h0 (h3 τ d ha.fst)]
          have e := k6 (gs.setIfInBounds 0 ph) sl τ (d + m) he.calm (Agr.snd ha h1 h2)
          have er : (crowd gs (On w τ d) sl).rest = restOf sl := rfl
          rw [er, e, Nat.add_assoc]
          have : (gs.setIfInBounds 0 ph).setIfInBounds 0 g' = gs.setIfInBounds 0 g' := by simp
          rw [this]
          rfl
    | coroswitch g₂ c e w₁ es =>
      simp only [hs] at h1 h2 h3 hmild hkind
      obtain ⟨rfl, hk1, hk2⟩ := hkind
      have hcase : (∃ o w', step P (solo g w) = .ended o w') ∨ (∃ g' w', step P (solo g w) = .next (solo g' w') ∧ g'.status = .finished) ∨
          ∃ g' w', g'.status = .running ∧ PlainG g' ∧ w'.tape = w₁.tape ∧ w'.drawn = w₁.drawn ∧
            ∀ gs sl w τ d, gs[0]? = some g → stepG P true g w = .coroswitch g₂ c true (On w₁ τ d) es → runT P (crowd gs w sl) 0 = (.next (crowd (gs.setIfInBounds 0 g') (On w' τ d) sl), MemOp.ofEvents 0 g.frame.fn g.frame.place es) := by
        by_cases hx : ∃ h, w₁.heap[c]? = some (.coro h)
        · obtain ⟨h, hx⟩ := hx
          cases h with
          | none =>
            obtain ⟨gd, k1, k2, k3⟩ := coro_none (P := P) g₂ hk2 g c w₁ es hx
            exact .inr (.inr ⟨gd, w₁, k1, k2, rfl, rfl, fun gs sl w τ d h0 hst => k3 gs sl w (On w₁ τ d) h0 hst rfl⟩)
          | some h =>
            cases h with
            | zero =>
              exact .inr (.inr ⟨{ g₂ with status := .running }, { w₁ with heap := w₁.heap.setIfInBounds c (.coro none) }, rfl, hk2, rfl, rfl, fun gs sl w τ d h0 hst => coro_zero (P := P) h0 hst hx⟩)
            | succ h =>
              refine .inr (.inl ⟨{ g₂ with status := .finished }, { w₁ with heap := w₁.heap.setIfInBounds c (.coro none) }, ?_, rfl⟩)
              rw [hst, hcr, coro_succ (P := P) hs hx]
        · refine .inl ?_
          rw [hst, hcr]
          exact coro_else (P := P) hs fun h e => hx ⟨h, e⟩
      rcases hcase with ⟨o, w', e⟩ | ⟨g', w', e, hf⟩ | ⟨g', w', k1, k2, k3, k4, k5⟩
      · exact .inl (.inl ⟨o, w', e⟩)
      · exact .inl (.inr ⟨_, e, lost_status (.inr (.inr hf))⟩)
      · refine .inr ⟨g', w', m, MemOp.ofEvents 0 g.frame.fn g.frame.place es, k1, k2, k3.trans h1, k4.trans h2, own_ofEvents, deaf_mild (es := es) hmild _ _, fun gs sl τ d he h0 ha => ?_⟩
        have hlt : 0 < gs.size := (Array.getElem?_eq_some_iff.1 h0).1
        exact ⟨gs.setIfInBounds 0 g', k5 gs sl _ τ (d + m) h0 (h3 τ d ha), by rw [Array.getElem?_setIfInBounds_self_of_lt hlt], fun i hi => by rw [Array.getElem?_setIfInBounds_ne (by omega)], by simp⟩
    | _ => simp only [hs] at hkind; exact hkind.elim

end Go.Proofs.Ytkhmooemgjichaa
