/- A SENDER THAT ONLY READS, AND GOROUTINE 0 RECEIVING: from the go statement to the last word heard. What comes to pass beside others that only leave: rules. Entries of reflectlite and bytealg go by the coming answers alone. From a contract beside leavers to the run of the whole call. -/
import Derived.Test.YtpenbkfchgeafaaGreatDoorQGz
import Derived.Conc.CrowdComm
import Derived.Conc.TokenTrace
import Derived.Lone
import Derived.Conc.Token
import Derived.Conc.RecvAny
namespace Go.Proofs.YtpenbkfchgeafaaGreatDoor

section
section
section
section
section
open Go Go.Conc
variable {P : Program}

def Calm (gs : Array Goroutine) : Prop := ∀ g ∈ gs, g.status ≠ .blocked
theorem Calm.partners {gs : Array Goroutine} (h : Calm gs) (r : Nat) (send : Bool) : partners gs r send = [] :=
  partners_nil fun j g hj => offersAt_of_not_blocked (h g (by obtain ⟨hl, e⟩ := Array.getElem?_eq_some_iff.1 hj; rw [← e]; exact Array.getElem_mem hl)) r send

def restOf (sl : Option (Nat × Nat)) : Rest := { timers := #[], alone := none, slice := sl }
/-- What stands in a trace behind a communication: goroutine 0's own words, that turn no deafness and touch nothing. -/
def Soft (ops : Array MemOp) : Prop := ∀ op ∈ ops, op.g = 0 ∧ (∀ d, deafStep 0 d op = d) ∧ op.act.touch? = none

def CommDead (P : Program) (g : Goroutine) (cs : Array CommCase) (b : Bool) (sh : CommShape) (w : World) : Prop :=
  ∀ gs sl, Calm gs → (∃ o w' ops, communicate P (restOf sl) gs 0 g cs b sh w = (.ended o w', ops)) ∨
    ∃ g' w' ops, communicate P (restOf sl) gs 0 g cs b sh w = (.next { world := w', gs := gs.setIfInBounds 0 g', rest := restOf sl }, ops) ∧ g'.status = .blocked
def CommFits (P : Program) (g : Goroutine) (cs : Array CommCase) (b : Bool) (sh : CommShape) (w : World) : Prop :=
  ∃ m g' w' ops, w'.tape = w.tape ∧ w'.drawn = w.drawn + m ∧ g'.status = .running ∧ PlainG g' ∧ Soft ops ∧
    ∀ gs sl τ d, Calm gs → Agr τ d w m → communicate P (restOf sl) gs 0 g cs b sh (On w τ d) = (.next { world := On w' τ (d + m), gs := gs.setIfInBounds 0 g', rest := restOf sl }, ops)

theorem ways_calm {gs : Array Goroutine} (h : Calm gs) (w : World) (τ : Tp) (d : Nat) (c : CommCase) : ways (On w τ d) gs c = ways w #[] c := by
  have hh : (On w τ d).heap = w.heap := rfl
  have h0 : ∀ r s, partners #[] r s = [] := fun _ _ => rfl
  unfold ways
  simp only [hh, h.partners, h0]
theorem ways_plain (w : World) (c : CommCase) : ∀ x ∈ ways w #[] c, x = .buffer ∨ x = .closed ∨ x = .sendClosed := by
  have h0 : ∀ r s, partners #[] r s = [] := fun _ _ => rfl
  unfold ways
  simp only [h0]
  intro x hx
  split at hx
  · split at hx
    · split at hx
      · simp at hx; simp [hx]
      · split at hx
        · simp at hx; simp [hx]
        · cases hx
    · split at hx
      · simp at hx; simp [hx]
      · split at hx
        · simp at hx; simp [hx]
        · cases hx
    · cases hx
  · cases hx

theorem soft_nil : Soft #[] := fun op h => by simp at h
theorem plain_comm {g : Goroutine} (h : PlainG g) (cs : Array CommCase) (sh : CommShape) (k : Int) (v : Value) (ok : Bool) : PlainG (g.finishComm P cs sh k v ok) := ⟨plain_finish h.1 _, h.2⟩

theorem run_loc {α : Type} {Q : α → Prop} {x : Sem α} (hx : Good P Q x) {w w1 : World} {a : α} (h : x.run P w = .ok a w1) :
    Q a ∧ ∃ m, w1.tape = w.tape ∧ w1.drawn = w.drawn + m ∧ ∀ τ d, Agr τ d w m → x.run P (On w τ d) = .ok a (On w1 τ (d + m)) := by
  have e : ∀ w, x.run P w = (x.runT P w #[]).1 := fun w => (Sem.runT_fst P _ _ #[]).symm
  rw [e] at h
  rcases hx w #[] with hE | hF
  · rw [h] at hE; exact hE.elim
  · obtain ⟨m, h1, h2, h3⟩ := hF.loc
    rw [h] at h1 h2
    refine ⟨hF.out a w1 h, m, h1, h2, fun τ d ha => ?_⟩
    rw [e, h3 τ d ha, h]
    rfl
theorem run_loc_panic {α : Type} {Q : α → Prop} {x : Sem α} (hx : Good P Q x) {w w1 : World} {v : Value} (h : x.run P w = .halt (.panic v) w1) :
    ∃ m, w1.tape = w.tape ∧ w1.drawn = w.drawn + m ∧ ∀ τ d, Agr τ d w m → x.run P (On w τ d) = .halt (.panic v) (On w1 τ (d + m)) := by
  have e : ∀ w, x.run P w = (x.runT P w #[]).1 := fun w => (Sem.runT_fst P _ _ #[]).symm
  rw [e] at h
  rcases hx w #[] with hE | hF
  · rw [h] at hE; exact hE.elim
  · obtain ⟨m, h1, h2, h3⟩ := hF.loc
    rw [h] at h1 h2
    refine ⟨m, h1, h2, fun τ d ha => ?_⟩
    rw [e, h3 τ d ha, h]
    rfl

def Pl (x : Way) : Prop := x = .buffer ∨ x = .closed ∨ x = .sendClosed
theorem pick_way (R : List (Nat × CommCase × List Way)) (h : ∀ x ∈ R, ∀ y ∈ x.2.2, Pl y) (a b : Nat) : Pl ((R.getD a (0, default, [])).2.2.getD b .closed) := by
  rw [List.getD_eq_getElem?_getD, List.getD_eq_getElem?_getD]
  cases ha : R[a]? with
  | none => exact .inr (.inl rfl)
  | some x =>
    simp only [Option.getD_some]
    cases hb : x.2.2[b]? with
    | none => exact .inr (.inl rfl)
    | some y => exact h x (List.mem_of_getElem? ha) y (List.mem_of_getElem? hb)
theorem ways_calm' {gs : Array Goroutine} (h : Calm gs) (w : World) (c : CommCase) : ways w gs c = ways w #[] c := ways_calm h w w.tape w.drawn c

theorem comm_alone (g : Goroutine) (hg : PlainG g) (hr : g.status = .running) (cs : Array CommCase) (b : Bool) (sh : CommShape) (w : World) : CommDead P g cs b sh w ∨ CommFits P g cs b sh w := by
  have hh : ∀ τ d, (On w τ d).heap = w.heap := fun _ _ => rfl
  by_cases hD : CommDead P g cs b sh w
  · exact .inl hD
  right
  simp only [CommDead, Classical.not_forall, not_or] at hD
  obtain ⟨gs0, sl0, hc0, hne, hnb⟩ := hD
  rcases hcm : communicate P (restOf sl0) gs0 0 g cs b sh w with ⟨r, ops⟩
  have hne' : ∀ o w', r ≠ .ended o w' := fun o w' e => hne ⟨o, w', ops, by rw [hcm, e]⟩
  have hnb' : ∀ g' w', r = .next { world := w', gs := gs0.setIfInBounds 0 g', rest := restOf sl0 } → g'.status ≠ .blocked := fun g' w' e hb => hnb ⟨g', w', ops, by rw [hcm, e], hb⟩
  clear hne hnb
  unfold communicate at hcm
  simp only [ways_calm' hc0, hc0.partners] at hcm
  split at hcm
  · obtain ⟨rfl, _⟩ := Prod.mk.inj hcm; exact absurd rfl (hne' _ _)
  rename_i hill
  split at hcm
  · rename_i hemp
    split at hcm
    · split at hcm
      · obtain ⟨rfl, _⟩ := Prod.mk.inj hcm; exact absurd rfl (hnb' _ _ rfl)
      · obtain ⟨rfl, _⟩ := Prod.mk.inj hcm; exact absurd rfl (hne' _ _)
    · rename_i hb
      refine ⟨0, g.finishComm P cs sh (-1) undef false, w, #[], rfl, rfl, rfl, plain_comm hg _ _ _ _ _, soft_nil, fun gs sl τ d hc _ => ?_⟩
      unfold communicate
      simp only [ways_calm hc, hc.partners, hh]
      rw [if_neg hill, if_pos hemp, if_neg hb]
      rfl
  rename_i hemp
  split at hcm
  · obtain ⟨rfl, _⟩ := Prod.mk.inj hcm; exact absurd rfl (hne' _ _)
  rename_i k c way w1 hpick
  obtain ⟨hq, m, ht, hd, hloc⟩ := run_loc (Q := fun x => Pl x.2.2) (Good.bind' (inferInstance : Gd P (choose _)).good fun a => Good.bind' (inferInstance : Gd P (choose _)).good fun b => Good.pure (pick_way _ (fun x hx y hy => by
    obtain ⟨z, hz, rfl⟩ := List.mem_map.1 (List.mem_filter.1 hx).1
    exact ways_plain _ _ y hy) _ _)) hpick
  have hh1 : ∀ τ d, (On w1 τ d).heap = w1.heap := fun _ _ => rfl
  split at hcm
  · split at hcm
    · rename_i v w2 hp
      obtain ⟨m2, ht2, hd2, hloc2⟩ := run_loc_panic (Q := fun _ => True) (good_runtimePanic _) hp
      refine ⟨m + m2, { g with frame := g.frame.raise [{ v := v, recovered := false }] }, w2, #[], ht2.trans ht, by rw [hd2, hd]; omega, hr, ⟨by rw [raise_todo]; exact hg.1, hg.2⟩, soft_nil, fun gs sl τ d hc ha => ?_⟩
      unfold communicate
      simp only [ways_calm hc, hc.partners, hh]
      rw [if_neg hill, if_neg hemp]
      simp only [hloc τ d ha.fst]
      rw [hloc2 τ (d + m) (Agr.snd ha ht hd), Nat.add_assoc]
    · obtain ⟨rfl, _⟩ := Prod.mk.inj hcm; exact absurd rfl (hne' _ _)
  · refine ⟨m, g.finishComm P cs sh ?k0 ?v0 ?b0, w1, ?ops0, ht, hd, rfl, plain_comm hg _ _ _ _ _, ?soft, fun gs sl τ d hc ha => ?main⟩
    case main =>
      unfold communicate
      simp only [ways_calm hc, hc.partners, hh]
      rw [if_neg hill, if_neg hemp]
      simp only [hloc τ d ha]
      rfl
    case soft =>
      intro op hop
      simp only [List.mem_toArray, List.mem_cons, List.not_mem_nil, or_false] at hop
      subst hop
      exact ⟨rfl, fun _ => rfl, rfl⟩
  · rename_i hheap hsend
    refine ⟨m, g.finishComm P cs sh ?k1 ?v1 ?b1, { w1 with heap := w1.heap.setIfInBounds ?r1 ?o1 }, ?ops1, ?ht, ?hd, rfl, plain_comm hg _ _ _ _ _, ?soft, fun gs sl τ d hc ha => ?main⟩
    case main =>
      unfold communicate
      simp only [ways_calm hc, hc.partners, hh]
      rw [if_neg hill, if_neg hemp]
      simp only [hloc τ d ha]
      simp only [hh1, hheap, hsend]
      rfl
    case ht => exact ht
    case hd => exact hd
    case soft =>
      intro op hop
      simp only [List.mem_toArray, List.mem_cons, List.not_mem_nil, or_false] at hop
      rcases hop with rfl | rfl <;> exact ⟨rfl, fun _ => rfl, rfl⟩
  · rename_i hheap hsend
    refine ⟨m, g.finishComm P cs sh ?k2 ?v2 ?b2, { w1 with heap := w1.heap.setIfInBounds ?r2 ?o2 }, ?ops2, ?ht, ?hd, rfl, plain_comm hg _ _ _ _ _, ?soft, fun gs sl τ d hc ha => ?main⟩
    case main =>
      unfold communicate
      simp only [ways_calm hc, hc.partners, hh]
      rw [if_neg hill, if_neg hemp]
      simp only [hloc τ d ha]
      simp only [hh1, hheap, hsend]
      rfl
    case ht => exact ht
    case hd => exact hd
    case soft =>
      intro op hop
      simp only [List.mem_toArray, List.mem_cons, List.not_mem_nil, or_false] at hop
      rcases hop with rfl | rfl <;> exact ⟨rfl, fun _ => rfl, rfl⟩
  · rcases hq with e | e | e <;> cases e
  · rcases hq with e | e | e <;> cases e
  · obtain ⟨rfl, _⟩ := Prod.mk.inj hcm; exact absurd rfl (hne' _ _)

end

open Go Go.Conc
variable {P : Program}

/-- Everybody but goroutine 0 runs or has ended. -/
def Easy (gs : Array Goroutine) : Prop := ∀ i g, 0 < i → gs[i]? = some g → g.status = .running ∨ g.status = .finished

structure Own1 (P : Program) (g : Goroutine) (w : World) (g' : Goroutine) (w' : World) (m : Nat) (ops : Array MemOp) : Prop where
  run : g'.status = .running
  plain : PlainG g'
  tape : w'.tape = w.tape
  drawn : w'.drawn = w.drawn + m
  own : ∀ op ∈ ops, op.g = 0
  deaf : ∀ t : Trace, Deaf (t ++ ops) 0 = Deaf t 0
  does : ∀ gs sl τ d, Easy gs → gs[0]? = some g → Agr τ d w m → ∃ gs', runT P (crowd gs (On w τ d) sl) 0 = (.next (crowd gs' (On w' τ (d + m)) sl), ops) ∧ gs'[0]? = some g' ∧ (∀ i, 0 < i → gs'[i]? = gs[i]?) ∧ gs'.size = gs.size

def LostAt (P : Program) (m : Machine) : Prop := ∀ n g' w', g'.status = .running → runN P n m ≠ .next (solo g' w')
theorem LostAt.next {m m' : Machine} (h : step P m = .next m') (h' : LostAt P m') (hne : ∀ g' w', g'.status = .running → m ≠ solo g' w') : LostAt P m := by
  intro n g' w' hg e
  cases n with
  | zero => exact hne g' w' hg (Stepped.next.inj e)
  | succ n => rw [runN, h] at e; exact h' n g' w' hg e
theorem LostAt.ended {m : Machine} {o : Outcome} {w : World} (h : step P m = .ended o w) (hne : ∀ g' w', g'.status = .running → m ≠ solo g' w') : LostAt P m := by
  intro n g' w' hg e
  cases n with
  | zero => exact hne g' w' hg (Stepped.next.inj e)
  | succ n => rw [runN, h] at e; cases e
theorem solo_inj {g g' : Goroutine} {w w' : World} (h : solo g w = solo g' w') : g = g' ∧ w = w' := by
  have h1 : (solo g w).gs = (solo g' w').gs := by rw [h]
  have h2 : (solo g w).world = (solo g' w').world := by rw [h]
  exact ⟨by simpa [solo] using h1, h2⟩
theorem LostAt.two {m : Machine} (h : 2 ≤ m.gs.size) : LostAt P m := by
  intro n g' w' _ e
  have : runNT P n m #[] = (.next (solo g' w'), (runNT P n m #[]).2) := Prod.ext (by rw [runNT_fst, e]) rfl
  have := runNT_size P n m _ _ _ this
  simp [solo] at this
  omega
theorem solo_asleep {g : Goroutine} {w : World} (h : g.status = .blocked ∨ g.status = .finished) : ∃ o w', step P (solo g w) = .ended o w' := by
  have hm : ∃ o w', move P (solo g w) = .machine (.ended o w') := by
    rcases h with h | h
    all_goals
      simp [move, ask, askOn, solo, runnable_eq, due, ahead, Goroutine.canRun, List.range_succ, pure, h]
      split <;> exact ⟨_, _, rfl⟩
  obtain ⟨o, w', e⟩ := hm
  exact ⟨o, w', by rw [step, stepT, e]⟩
theorem solo_waiting {g : Goroutine} {w : World} (h : g.status = .waiting) : step P (solo g w) = .next (solo g w) := by
  have hm : move P (solo g w) = .machine (.next (solo g w)) := by
    simp [move, ask, askOn, solo, runnable_eq, due, ahead, Goroutine.canRun, List.range_succ, pure, h]
  rw [step, stepT, hm]
theorem lost_status {g : Goroutine} {w : World} (h : g.status = .blocked ∨ g.status = .waiting ∨ g.status = .finished) : LostAt P (solo g w) := by
  have hne : ∀ g' w', g'.status = .running → solo g w ≠ solo g' w' := fun g' w' hr e => by
    obtain ⟨rfl, _⟩ := solo_inj e
    rcases h with h | h | h <;> rw [h] at hr <;> cases hr
  rcases h with h | h | h
  · obtain ⟨o, w', e⟩ := solo_asleep (P := P) (w := w) (.inl h); exact LostAt.ended e hne
  · intro n
    induction n with
    | zero => exact fun g' w' hr e => hne g' w' hr (Stepped.next.inj e)
    | succ n ih => intro g' w' hr e; rw [runN, solo_waiting h] at e; exact ih g' w' hr e
  · obtain ⟨o, w', e⟩ := solo_asleep (P := P) (w := w) (.inr h); exact LostAt.ended e hne

def LostNext (P : Program) (m : Machine) : Prop := (∃ o w, step P m = .ended o w) ∨ ∃ m', step P m = .next m' ∧ LostAt P m'
theorem LostNext.no {m : Machine} (h : LostNext P m) {n : Nat} {g' : Goroutine} {w' : World} (hr : g'.status = .running) : runN P (n + 1) m ≠ .next (solo g' w') := by
  rcases h with ⟨o, w, e⟩ | ⟨m', e, h⟩
  · rw [runN, e]; exact fun x => by cases x
  · rw [runN, e]; exact h n g' w' hr

theorem Easy.woken {gs : Array Goroutine} (h : Easy gs) {i : Nat} (hi : 0 < i) (a a' : Goroutine) (w : World) : (gs.map (woken P a a' w))[i]? = gs[i]? := by
  rw [Array.getElem?_map]
  cases e : gs[i]? with
  | none => rfl
  | some y => simp only [Option.map_some, woken_of_again (again_of_running (h i y hi e) w)]
theorem Easy.calm {gs : Array Goroutine} (h : Easy gs) : Calm (gs.setIfInBounds 0 ph) := by
  intro g hg
  obtain ⟨i, hi, rfl⟩ := Array.mem_iff_getElem.1 hg
  have e : (gs.setIfInBounds 0 ph)[i]? = some (gs.setIfInBounds 0 ph)[i] := Array.getElem?_eq_getElem hi
  rcases Nat.eq_zero_or_pos i with rfl | hpos
  · rw [Array.getElem?_setIfInBounds_self_of_lt (by simpa using hi)] at e
    rw [← Option.some.inj e]
    exact fun x => by cases x
  · rw [Array.getElem?_setIfInBounds_ne (by omega)] at e
    rcases h i _ hpos e with x | x <;> rw [x] <;> exact fun y => by cases y

theorem deaf_mild {es : Array Event} (h : Mild es) (fn : FuncId) (pos : String) (t : Trace) : Deaf (t ++ MemOp.ofEvents 0 fn pos es) 0 = Deaf t 0 := by rw [Deaf_own, h.1]
theorem own_ofEvents {fn : FuncId} {pos : String} {es : Array Event} : ∀ op ∈ MemOp.ofEvents 0 fn pos es, op.g = 0 := fun op hop => by
  obtain ⟨e, _, rfl⟩ := Go.Conc.mem_ofEvents hop; rfl

section
variable {gs : Array Goroutine} {sl : Option (Nat × Nat)} {g g₂ : Goroutine} {c : Nat} {w W : World} {es : Array Event}
theorem coro_zero (h0 : gs[0]? = some g) (h : stepG P true g w = .coroswitch g₂ c true W es) (hx : W.heap[c]? = some (.coro (some 0))) :
    runT P (crowd gs w sl) 0 = (.next (crowd (gs.setIfInBounds 0 { g₂ with status := .running }) { W with heap := W.heap.setIfInBounds c (.coro none) } sl), MemOp.ofEvents 0 g.frame.fn g.frame.place es) := by
  obtain ⟨hlt, rfl⟩ := Array.getElem?_eq_some_iff.1 h0
  have hsw := swapAt_of_lt hlt { (default : Goroutine) with status := .finished }
  show runT P { world := w, gs := gs, rest := { timers := #[], alone := none, slice := sl } } 0 = _
  unfold runT
  have hb : ((0 : Nat) == 0) = true := rfl
  simp only [hsw, hb, h, GStep.es, hx, if_true, set_setIfInBounds hlt, crowd]
  congr 3
  apply Array.ext_getElem?
  intro i
  rw [Array.getElem?_modify]
  by_cases hi : 0 = i
  · subst hi
    rw [Array.getElem?_setIfInBounds_self_of_lt hlt, Array.getElem?_setIfInBounds_self_of_lt hlt]
    simp
  · rw [if_neg hi, Array.getElem?_setIfInBounds_ne hi, Array.getElem?_setIfInBounds_ne hi]
theorem coro_succ {k : Nat} (h : stepG P true g w = .coroswitch g₂ c true W es) (hx : W.heap[c]? = some (.coro (some (k + 1)))) :
    (runT P (crowd #[g] w none) 0).1 = .next (solo { g₂ with status := .finished } { W with heap := W.heap.setIfInBounds c (.coro none) }) := by
  simp [runT, crowd, solo, Array.swapAt!, Array.swapAt, h, hx]
theorem coro_else (h : stepG P true g w = .coroswitch g₂ c true W es) (hx : ∀ h, W.heap[c]? ≠ some (.coro h)) :
    ∃ o w', (runT P (crowd #[g] w none) 0).1 = .ended o w' := by
  have hsw := swapAt_of_lt (gs := #[g]) (i := 0) (by simp) { (default : Goroutine) with status := .finished }
  have e : (#[g] : Array Goroutine)[0] = g := rfl
  rw [e] at hsw
  refine ⟨.stuck "coroswitch: no coroutine" "", W, ?_⟩
  show (runT P { world := w, gs := #[g], rest := { timers := #[], alone := none, slice := none } } 0).1 = _
  unfold runT
  have hb : ((0 : Nat) == 0) = true := rfl
  simp only [hsw, hb, h, GStep.es]
  split
  · rename_i he; exact absurd he (hx _)
  · rename_i he; exact absurd he (hx _)
  · rfl
theorem coro_none (g₂ : Goroutine) (hg : PlainG g₂) (g : Goroutine) (c : Nat) (w₁ : World) (es : Array Event) (hx : w₁.heap[c]? = some (.coro none)) :
    ∃ gd : Goroutine, gd.status = .running ∧ PlainG gd ∧ ∀ gs sl w W, gs[0]? = some g → stepG P true g w = .coroswitch g₂ c true W es → W.heap = w₁.heap →
      runT P (crowd gs w sl) 0 = (.next (crowd (gs.setIfInBounds 0 gd) W sl), MemOp.ofEvents 0 g.frame.fn g.frame.place es) := by
  obtain ⟨gd, hgd⟩ : ∃ gd : Goroutine, gd = { frame := g₂.frame, callers := [], status := .running, dying := some { todo := [], texts := [], calling := false, pending := "", runtimeError := false, fatal := some { pieces := [] ++ bytes "fatal error: " :: indentedPieces (bytes "coroswitch on exited coro") ++ [bytes "\n"], text := "coroswitch on exited coro", whole := false, begun := false } } } := ⟨_, rfl⟩
  refine ⟨gd, by rw [hgd], by rw [hgd]; exact ⟨hg.1, fun _ hx => by cases hx⟩, fun gs sl w W h0 h hW => ?_⟩
  · obtain ⟨hlt, rfl⟩ := Array.getElem?_eq_some_iff.1 h0
    have hsw := swapAt_of_lt hlt { (default : Goroutine) with status := .finished }
    show runT P { world := w, gs := gs, rest := { timers := #[], alone := none, slice := sl } } 0 = _
    unfold runT
    have hb : ((0 : Nat) == 0) = true := rfl
    rw [← hW] at hx
    simp only [hsw, hb, h, GStep.es, hx, set_setIfInBounds hlt, endThrow, dieOf, crowd, hgd]
end

theorem own_step (hP : PlainP P) {g : Goroutine} (hg : PlainG g) (hr : g.status = .running) (w : World) : LostNext P (solo g w) ∨ ∃ g' w' m ops, Own1 P g w g' w' m ops := by
  have hst : step P (solo g w) = (runT P (solo g w) 0).1 := by rw [step, stepT_solo hr]
  have hgs : (#[g] : Array Goroutine)[0]? = some g := rfl
  have hcr : solo g w = crowd #[g] w none := rfl
  rcases good_stepG hP g hg w with hE | hF
  · left
    cases hs : stepG P true g w with
    | ended o w' es =>
      refine .inl ⟨o, w', ?_⟩
      rw [hst, hcr, runT_many_ended (P := P) (i := 0) hgs (show stepG P (0 == 0) g w = _ from hs)]
    | go g' w' es =>
      simp only [hs] at hE
      refine .inr ⟨solo g' w', ?_, lost_status (hE.elim .inl fun x => .inr x)⟩
      rw [hst, runT_solo_go hs]
    | _ => simp only [hs] at hE; exact hE.elim
  · obtain ⟨m, h1, h2, h3⟩ := hF.loc
    have hmild := hF.mild
    have hkind := hF.kind
    cases hs : stepG P true g w with
    | go g' w' es =>
      simp only [hs] at h1 h2 h3 hmild hkind
      refine .inr ⟨g', w', m, MemOp.ofEvents 0 g.frame.fn g.frame.place es, hkind.1, hkind.2, h1, h2, own_ofEvents, deaf_mild hmild _ _, fun gs sl τ d he h0 ha => ?_⟩
      have hlt : 0 < gs.size := (Array.getElem?_eq_some_iff.1 h0).1
      refine ⟨_, runT_crowd_go (P := P) (i := 0) h0 (show stepG P (0 == 0) g _ = _ from h3 τ d ha), by rw [Array.getElem?_setIfInBounds_self_of_lt (by simpa using hlt)], fun i hi => ?_, by simp⟩
      rw [Array.getElem?_setIfInBounds_ne (by omega), he.woken hi]
    | spawn g' c w' es =>
      refine .inl (.inr ⟨_, by rw [hst, runT_solo_spawn hs], LostAt.two (by simp [duo])⟩)
    | newcoro g' c dd w' es =>
      left
      have : ∃ m', (runT P (solo g w) 0).1 = .next m' ∧ 2 ≤ m'.gs.size := by
        simp [runT, solo, Array.swapAt!, Array.swapAt, hs]
      obtain ⟨m', e, h⟩ := this
      exact .inr ⟨m', by rw [hst, e], LostAt.two h⟩
    | comm g₂ cs b sh w₁ es =>
      simp only [hs] at h1 h2 h3 hmild hkind
      have hrun : ∀ gs sl w w₁, gs[0]? = some g → stepG P true g w = .comm g₂ cs b sh w₁ es → runT P (crowd gs w sl) 0 = _ := fun gs sl w w₁ h0 h => runT_crowd_comm (P := P) (i := 0) (sl := sl) h0 (show stepG P (0 == 0) g _ = _ from h)
      have hsolo := hrun #[g] none w w₁ hgs hs
      have hph : (#[g] : Array Goroutine).setIfInBounds 0 ph = #[ph] := rfl
      have hcalm : Calm #[ph] := fun x hx => by
        rw [List.mem_toArray, List.mem_singleton] at hx; subst hx; exact fun h => by cases h
      rcases comm_alone (P := P) g₂ hkind.2 hkind.1 cs b sh w₁ with hD | ⟨m2, g', w', ops, k1, k2, k3, k4, k5, k6⟩
      · left
        rcases hD #[ph] none hcalm with ⟨o, w', ops, e⟩ | ⟨g', w', ops, e, hb⟩
        · refine .inl ⟨o, w', ?_⟩
          rw [hst, hcr, hsolo, hph]
          show (communicate P (restOf none) #[ph] 0 g₂ cs b sh w₁).1 = _
          rw [e]
        · refine .inr ⟨solo g' w', ?_, lost_status (.inl hb)⟩
          rw [hst, hcr, hsolo, hph]
          show (communicate P (restOf none) #[ph] 0 g₂ cs b sh w₁).1 = _
          rw [e]
          rfl
      · refine .inr ⟨g', w', m + m2, MemOp.ofEvents 0 g.frame.fn g.frame.place es ++ ops, k3, k4, k1.trans h1, by rw [k2]; dsimp only [sw] at h2; rw [h2]; omega, fun op hop => ?_, fun t => ?_, fun gs sl τ d he h0 ha => ?_⟩
        · exact (Array.mem_append.1 hop).elim (own_ofEvents op) fun h => (k5 op h).1
        · rw [← Array.append_assoc, Deaf_quiet fun op hop => (k5 op hop).2.1]; exact deaf_mild (es := es) hmild _ _ t
        · have hlt : 0 < gs.size := (Array.getElem?_eq_some_iff.1 h0).1
          refine ⟨gs.setIfInBounds 0 g', ?_, by rw [Array.getElem?_setIfInBounds_self_of_lt hlt], fun i hi => by rw [Array.getElem?_setIfInBounds_ne (by omega)], by simp⟩
          rw [hrun gs sl _ _ h0 (h3 τ d ha.fst)]
          have e := k6 (gs.setIfInBounds 0 ph) sl τ (d + m) he.calm (Agr.snd ha h1 h2)
          have er : (crowd gs (On w τ d) sl).rest = restOf sl := rfl
          rw [er, e, Nat.add_assoc]
          have : (gs.setIfInBounds 0 ph).setIfInBounds 0 g' = gs.setIfInBounds 0 g' := by simp
          rw [this]
          rfl
    | coroswitch g₂ c e w₁ es =>
      simp only [hs] at h1 h2 h3 hmild hkind
      obtain ⟨rfl, hk1, hk2⟩ := hkind
      have hcase : (∃ o w', step P (solo g w) = .ended o w') ∨ (∃ g' w', step P (solo g w) = .next (solo g' w') ∧ g'.status = .finished) ∨
          ∃ g' w', g'.status = .running ∧ PlainG g' ∧ w'.tape = w₁.tape ∧ w'.drawn = w₁.drawn ∧
            ∀ gs sl w τ d, gs[0]? = some g → stepG P true g w = .coroswitch g₂ c true (On w₁ τ d) es → runT P (crowd gs w sl) 0 = (.next (crowd (gs.setIfInBounds 0 g') (On w' τ d) sl), MemOp.ofEvents 0 g.frame.fn g.frame.place es) := by
        by_cases hx : ∃ h, w₁.heap[c]? = some (.coro h)
        · obtain ⟨h, hx⟩ := hx
          cases h with
          | none =>
            obtain ⟨gd, k1, k2, k3⟩ := coro_none (P := P) g₂ hk2 g c w₁ es hx
            exact .inr (.inr ⟨gd, w₁, k1, k2, rfl, rfl, fun gs sl w τ d h0 hst => k3 gs sl w (On w₁ τ d) h0 hst rfl⟩)
          | some h =>
            cases h with
            | zero =>
              exact .inr (.inr ⟨{ g₂ with status := .running }, { w₁ with heap := w₁.heap.setIfInBounds c (.coro none) }, rfl, hk2, rfl, rfl, fun gs sl w τ d h0 hst => coro_zero (P := P) h0 hst hx⟩)
            | succ h =>
              refine .inr (.inl ⟨{ g₂ with status := .finished }, { w₁ with heap := w₁.heap.setIfInBounds c (.coro none) }, ?_, rfl⟩)
              rw [hst, hcr, coro_succ (P := P) hs hx]
        · refine .inl ?_
          rw [hst, hcr]
          exact coro_else (P := P) hs fun h e => hx ⟨h, e⟩
      rcases hcase with ⟨o, w', e⟩ | ⟨g', w', e, hf⟩ | ⟨g', w', k1, k2, k3, k4, k5⟩
      · exact .inl (.inl ⟨o, w', e⟩)
      · exact .inl (.inr ⟨_, e, lost_status (.inr (.inr hf))⟩)
      · refine .inr ⟨g', w', m, MemOp.ofEvents 0 g.frame.fn g.frame.place es, k1, k2, k3.trans h1, k4.trans h2, own_ofEvents, deaf_mild (es := es) hmild _ _, fun gs sl τ d he h0 ha => ?_⟩
        have hlt : 0 < gs.size := (Array.getElem?_eq_some_iff.1 h0).1
        exact ⟨gs.setIfInBounds 0 g', k5 gs sl _ τ (d + m) h0 (h3 τ d ha), by rw [Array.getElem?_setIfInBounds_self_of_lt hlt], fun i hi => by rw [Array.getElem?_setIfInBounds_ne (by omega)], by simp⟩
    | _ => simp only [hs] at hkind; exact hkind.elim

end

section
open Go Go.Conc
open Go.ConcN (sumTo upd sumTo_upd upd_ne upd_same)
variable {P : Program} {Stop : Goroutine → World → Prop}

/-- Alone, on every tape, it comes to a stop. -/
def SoloTo (P : Program) (Stop : Goroutine → World → Prop) (g : Goroutine) (w : World) : Prop :=
  ∀ τ, ∃ n g' w', runN P n (solo g (On w τ 0)) = .next (solo g' w') ∧ g'.status = .running ∧ Stop g' w'
/-- What is said of a stop does not hang on the tape. -/
def Blind (Stop : Goroutine → World → Prop) : Prop := ∀ g w τ d, Stop g w → Stop g (On w τ d)

/-- It is on its way to a stop, whatever is drawn between its steps. -/
inductive Tree (P : Program) (Stop : Goroutine → World → Prop) : Goroutine → World → Prop
  | stop {g : Goroutine} {w : World} : g.status = .running → PlainG g → (∀ τ d, Stop g (On w τ d)) → Tree P Stop g w
  | step {g : Goroutine} {w : World} (G : Nat → Goroutine) (W : Nat → World) (M : Nat → Nat) (O : Nat → Array MemOp) : g.status = .running → (∀ d, Own1 P g (w.at d) (G d) (W d) (M d) (O d)) → (∀ d, Tree P Stop (G d) (W d)) → Tree P Stop g w
theorem Tree.step' {g : Goroutine} {w : World} (hr : g.status = .running) (h : ∀ d, ∃ g' w' m ops, Own1 P g (w.at d) g' w' m ops ∧ Tree P Stop g' w') : Tree P Stop g w := by
  have hs := fun d => (h d).choose_spec.choose_spec.choose_spec.choose_spec
  exact .step _ _ _ _ hr (fun d => (hs d).1) fun d => (hs d).2

theorem on_on (w : World) (τ τ' : Tp) (d d' : Nat) : On (On w τ d) τ' d' = On w τ' d' := rfl
theorem on_self (w : World) : On w w.tape w.drawn = w := rfl
/-- A step is the same wherever the coming answers are. -/
theorem Own1.move {g g' : Goroutine} {w w' v : World} {m : Nat} {ops : Array MemOp} (h : Own1 P g w g' w' m ops) (e : ∃ τ d, v = On w τ d) (ha : Agr v.tape v.drawn w m) : Own1 P g v g' (On w' v.tape (v.drawn + m)) m ops := by
  obtain ⟨τ, d, rfl⟩ := e
  refine ⟨h.run, h.plain, rfl, rfl, h.own, h.deaf, fun gs sl τ' d' he h0 ha' => ?_⟩
  exact h.does gs sl τ' d' he h0 fun j hj => (ha' j hj).trans (ha j hj)
theorem Own1.alone {g g' : Goroutine} {w w' : World} {m : Nat} {ops : Array MemOp} (h : Own1 P g w g' w' m ops) (hr : g.status = .running) (τ : Tp) (d : Nat) (ha : Agr τ d w m) : step P (solo g (On w τ d)) = .next (solo g' (On w' τ (d + m))) := by
  obtain ⟨gs', e, h0, _, hs⟩ := h.does #[g] none τ d (fun i x hi hx => by
    have := (Array.getElem?_eq_some_iff.1 hx).1
    simp at this; omega) rfl ha
  have : gs' = #[g'] := by
    apply Array.ext_getElem?
    intro i
    rcases Nat.eq_zero_or_pos i with rfl | hi
    · rw [h0]; rfl
    · rw [Array.getElem?_eq_none (by rw [hs]; exact hi), Array.getElem?_eq_none (by exact hi)]
  rw [step, stepT_solo hr, solo_eq_crowd, e, this]
  rfl

structure St where
  g : Goroutine
  w : World
  c : Nat
  σ : Tp
/-- So far on the way, never at a stop. -/
structure Way1 (P : Program) (Stop : Goroutine → World → Prop) (g0 : Goroutine) (w0 : World) (i : Nat) (s : St) : Prop where
  run : s.g.status = .running
  plain : PlainG s.g
  bad : ¬ Tree P Stop s.g s.w
  here : ∀ τ, (∀ j, j < s.c → τ j = s.σ j) → runN P i (solo g0 (On w0 τ 0)) = .next (solo s.g (On s.w τ s.c))
  old : ∀ τ, (∀ j, j < s.c → τ j = s.σ j) → ∀ k, k < i → ∀ g' w', runN P k (solo g0 (On w0 τ 0)) = .next (solo g' w') → ¬ Stop g' w'

theorem Way1.next (hP : PlainP P) (hB : Blind Stop) {g0 : Goroutine} {w0 : World} (hS : SoloTo P Stop g0 w0) {i : Nat} {s : St} (h : Way1 P Stop g0 w0 i s) :
    ∃ s' : St, Way1 P Stop g0 w0 (i + 1) s' ∧ s.c ≤ s'.c ∧ ∀ j, j < s.c → s'.σ j = s.σ j := by
  obtain ⟨g, w, c, σ⟩ := s
  obtain ⟨hr, hp, hbad, hhere, hold⟩ := h
  dsimp only at *
  have hns : ¬ ∀ τ d, Stop g (On w τ d) := fun x => hbad (.stop hr hp x)
  have hd : ∃ d, ∀ g' w' m ops, Own1 P g (w.at d) g' w' m ops → ¬ Tree P Stop g' w' := by
    refine Classical.byContradiction fun hno => hbad (Tree.step' hr fun d => ?_)
    refine Classical.byContradiction fun h => hno ⟨d, fun g' w' m ops h1 h2 => h ⟨g', w', m, ops, h1, h2⟩⟩
  obtain ⟨d, hd⟩ := hd
  -- the tape on which goroutine 0 alone meets the answers that come here
  let τc : Tp := fun j => if j < c then σ j else w.tape (d + (j - c))
  have hτc : ∀ j, j < c → τc j = σ j := fun j hj => if_pos hj
  have hτd : ∀ j, τc (c + j) = w.tape (d + j) := fun j => by
    show (if c + j < c then σ (c + j) else w.tape (d + (c + j - c))) = _
    rw [if_neg (by omega), Nat.add_sub_cancel_left]
  have hstop : ∀ τ, ¬ Stop g (On w τ c) := fun τ x => hns fun τ' d' => by have := hB g _ τ' d' x; exact this
  rcases own_step hP hp hr (On w τc c) with hL | ⟨g', w', m, ops, hO⟩
  · exfalso
    obtain ⟨n, g', w', hn, hr', hs'⟩ := hS τc
    rcases Nat.lt_trichotomy i n with hlt | rfl | hge
    · obtain ⟨k, rfl⟩ : ∃ k, n = i + (k + 1) := ⟨n - i - 1, by omega⟩
      have e : runN P (i + (k + 1)) (solo g0 (On w0 τc 0)) = runN P (k + 1) (solo g (On w τc c)) := by rw [runN_add, hhere τc hτc]
      rw [e] at hn
      exact hL.no hr' hn
    · rw [hhere τc hτc] at hn
      obtain ⟨rfl, rfl⟩ := solo_inj (Stepped.next.inj hn)
      exact hstop τc hs'
    · exact hold τc hτc n hge g' w' hn hs'
  · have hO' : Own1 P g (w.at d) g' (On w' w.tape (d + m)) m ops := hO.move (v := w.at d) ⟨w.tape, d, rfl⟩ fun j hj => (hτd j).symm
    refine ⟨⟨g', On w' w.tape (d + m), c + m, τc⟩, ⟨hO.run, hO.plain, hd _ _ _ _ hO', fun τ hτ => ?_, fun τ hτ k hk g'' w'' e => ?_⟩, Nat.le_add_right _ _, hτc⟩
    · have e1 := hhere τ fun j hj => (hτ j (Nat.lt_of_lt_of_le hj (Nat.le_add_right _ _))).trans (hτc j hj)
      rw [runN_add, e1]
      show runN P 1 _ = _
      rw [runN, show solo g (On w τ c) = solo g (On (On w τc c) τ c) from rfl, hO.alone hr τ c fun j hj => hτ (c + j) (by dsimp only; omega)]
      rfl
    · have hτ' : ∀ j, j < c → τ j = σ j := fun j hj => (hτ j (Nat.lt_of_lt_of_le hj (Nat.le_add_right _ _))).trans (hτc j hj)
      rcases Nat.lt_or_ge k i with hlt | hge
      · exact hold τ hτ' k hlt g'' w'' e
      · obtain rfl : k = i := by omega
        rw [hhere τ hτ'] at e
        obtain ⟨rfl, rfl⟩ := solo_inj (Stepped.next.inj e)
        exact hstop τ

theorem tree_of_solo (hP : PlainP P) (hB : Blind Stop) {g : Goroutine} {w : World} (hg : PlainG g) (hr : g.status = .running) (hS : SoloTo P Stop g w) : Tree P Stop g w := by
  classical
  refine Classical.byContradiction fun hbad => ?_
  have h0 : Way1 P Stop g w 0 ⟨g, w, 0, w.tape⟩ := ⟨hr, hg, hbad, fun τ _ => rfl, fun _ _ k hk => absurd hk (Nat.not_lt_zero _)⟩
  let f : ∀ i, {s : St // Way1 P Stop g w i s} := fun i => Nat.rec ⟨⟨g, w, 0, w.tape⟩, h0⟩ (fun i s => ⟨Classical.choose (s.2.next hP hB hS), (Classical.choose_spec (s.2.next hP hB hS)).1⟩) i
  have hf : ∀ i, (f i).1.c ≤ (f (i + 1)).1.c ∧ ∀ j, j < (f i).1.c → (f (i + 1)).1.σ j = (f i).1.σ j := fun i => (Classical.choose_spec ((f i).2.next hP hB hS)).2
  have hmono : ∀ i k, (f i).1.c ≤ (f (i + k)).1.c ∧ ∀ j, j < (f i).1.c → (f (i + k)).1.σ j = (f i).1.σ j := by
    intro i k
    induction k with
    | zero => exact ⟨Nat.le_refl _, fun _ _ => rfl⟩
    | succ k ih => exact ⟨Nat.le_trans ih.1 (hf (i + k)).1, fun j hj => ((hf (i + k)).2 j (Nat.lt_of_lt_of_le hj ih.1)).trans (ih.2 j hj)⟩
  let T : Tp := fun j => if h : ∃ i, j < (f i).1.c then (f (Classical.choose h)).1.σ j else fun _ => 0
  have hT : ∀ i j, j < (f i).1.c → T j = (f i).1.σ j := by
    intro i j hj
    have h : ∃ i, j < (f i).1.c := ⟨i, hj⟩
    show (if h : ∃ i, j < (f i).1.c then (f (Classical.choose h)).1.σ j else fun _ => 0) = _
    rw [dif_pos h]
    have hc := Classical.choose_spec h
    generalize Classical.choose h = k at hc
    rcases Nat.le_total i k with hik | hik
    · obtain ⟨x, rfl⟩ := Nat.exists_eq_add_of_le hik
      exact (hmono i x).2 j hj
    · obtain ⟨x, rfl⟩ := Nat.exists_eq_add_of_le hik
      exact ((hmono k x).2 j hc).symm
  obtain ⟨n, g', w', hn, _, hs⟩ := hS T
  exact (f (n + 1)).2.old T (hT (n + 1)) n (Nat.lt_succ_self _) g' w' hn hs

end

open Go Go.Conc
open Go.ConcN (sumTo upd sumTo_upd upd_ne upd_same)
variable {P : Program} {Stop : Goroutine → World → Prop}

theorem low_one (a : MemAct) : ∃ B, a.low B := by
  cases a with
  | access e =>
    obtain ⟨loc, wr, sy⟩ := e
    cases loc with
    | cell a => exact ⟨a.block + 1, Nat.lt_succ_self _⟩
    | obj r => exact ⟨r + 1, Nat.lt_succ_self _⟩
    | _ => exact ⟨0, trivial⟩
  | mark m =>
    cases m with
    | acquire a => exact ⟨a.block + 1, Nat.lt_succ_self _⟩
    | release a => exact ⟨a.block + 1, Nat.lt_succ_self _⟩
    | releaseMerge a => exact ⟨a.block + 1, Nat.lt_succ_self _⟩
    | read a => exact ⟨a.block + 1, Nat.lt_succ_self _⟩
    | write a => exact ⟨a.block + 1, Nat.lt_succ_self _⟩
    | _ => exact ⟨0, trivial⟩
  | go _ => exact ⟨0, trivial⟩
  | start => exact ⟨0, trivial⟩
  | send c k => exact ⟨c + 1, Nat.lt_succ_self _⟩
  | sendDone c k => exact ⟨c + 1, Nat.lt_succ_self _⟩
  | recv c k p => exact ⟨c + 1, Nat.lt_succ_self _⟩
  | recvDone c k => exact ⟨c + 1, Nat.lt_succ_self _⟩
  | close c => exact ⟨c + 1, Nat.lt_succ_self _⟩
  | recvClosed c => exact ⟨c + 1, Nat.lt_succ_self _⟩
theorem low_list : ∀ l : List MemOp, ∃ B, ∀ op ∈ l, op.act.low B
  | [] => ⟨0, fun _ h => by cases h⟩
  | x :: l => by
    obtain ⟨B, h⟩ := low_list l
    obtain ⟨B', h'⟩ := low_one x.act
    refine ⟨max B B', fun op hop => ?_⟩
    rcases List.mem_cons.1 hop with rfl | hop
    · exact MemAct.low_mono (Nat.le_max_right _ _) h'
    · exact MemAct.low_mono (Nat.le_max_left _ _) (h op hop)
theorem low_all (ops : Array MemOp) : ∃ B, ∀ op ∈ ops, op.act.low B :=
  let ⟨B, h⟩ := low_list ops.toList; ⟨B, fun op hop => h op (Array.mem_toList_iff.2 hop)⟩

/-- A leaver's step. -/
theorem slip {gs : Array Goroutine} {w : World} {sl : Option (Nat × Nat)} {t : Trace} {n i : Nat} {g : Goroutine} (hi : gs[i]? = some g) (hpos : 0 < i) (hr : g.status = .running) (hq : QuitsD P n (Deaf t i) g) :
    ∃ g' ops k, n = k + 1 ∧ runT P (crowd gs w sl) i = (.next (crowd ((gs.map (woken P g g' w)).setIfInBounds i g') w sl), ops) ∧ (∀ op ∈ ops, op.g = i) ∧ (∀ op ∈ ops, op.act.touch? = none) ∧
      (∀ B, ∀ op ∈ ops, op.act.low B) ∧ QuitsD P k (Deaf (t ++ ops) i) g' := by
  have hi0 : (i == 0) = false := by simp; omega
  cases n with
  | zero => have := hq.1; rw [hr] at this; cases this
  | succ k =>
    rcases hq with ⟨hf, _⟩ | ⟨_, g', es, hm, hstp, hq'⟩
    · rw [hr] at hf; cases hf
    · refine ⟨g', _, k, rfl, runT_crowd_go (P := P) hi (by rw [hi0]; exact hstp w), fun op hop => ?_, fun op hop => ?_, fun B op hop => ?_, ?_⟩
      · obtain ⟨e, _, rfl⟩ := Go.Conc.mem_ofEvents hop; rfl
      · obtain ⟨e, he, rfl⟩ := Go.Conc.mem_ofEvents hop; exact touch_mute (hm e he)
      · obtain ⟨e, he, rfl⟩ := Go.Conc.mem_ofEvents hop; exact low_mute (hm e he) B
      · rw [Deaf_own]; exact hq'

theorem Leavers.easy {t : Trace} {gs : Array Goroutine} {q : Nat → Nat} (h : Leavers P t gs q) : Easy gs := fun i g hi hg => (h.old i g hi hg).status
theorem Past.own0 {B : Nat} {t : Trace} (h : Past (fun _ => False) B t) {ops : Array MemOp} (ho : ∀ op ∈ ops, op.g = 0) (hd : Deaf (t ++ ops) 0 = Deaf t 0) : ∃ B', B ≤ B' ∧ Past (fun _ => False) B' (t ++ ops) := by
  obtain ⟨B₁, h₁⟩ := low_all ops
  refine ⟨max B B₁, Nat.le_max_left _ _, (h.mono (Nat.le_max_left _ _)).app0 ho (fun _ _ _ _ x => x.elim) hd fun op hop => MemAct.low_mono (Nat.le_max_right _ _) (h₁ op hop)⟩
theorem Leavers.own0 {t : Trace} {gs gs' : Array Goroutine} {q : Nat → Nat} (h : Leavers P t gs q) {ops : Array MemOp} (ho : ∀ op ∈ ops, op.g = 0) (hs : gs'.size = gs.size) (hne : 0 < gs.size) (hg : ∀ i, 0 < i → gs'[i]? = gs[i]?) : Leavers P (t ++ ops) gs' q :=
  ⟨fun i g hi hx => by
    rw [hg i hi] at hx
    rw [Deaf_other t (g' := 0) (by omega) ops ho]
    exact h.old i g hi hx, fun j hj => by
    rw [Deaf_other t (g' := 0) (by omega) ops ho]
    exact h.above j (by omega)⟩

theorem walk_tree {g : Goroutine} {w : World} (h : Tree P Stop g w) : ∀ (gs : Array Goroutine) (w₁ : World) (sl : Option (Nat × Nat)) (t : Trace) (q : Nat → Nat) (B : Nat), (∃ d, w₁ = w.at d) → gs[0]? = some g → Leavers P t gs q → Past (fun _ => False) B t →
    ∃ N gs' g' w' sl' t' q' B', runNT P N (crowd gs w₁ sl) t = (.next (crowd gs' w' sl'), t') ∧ gs'.size = gs.size ∧ gs'[0]? = some g' ∧ g'.status = .running ∧ PlainG g' ∧ Stop g' w' ∧ Leavers P t' gs' q' ∧ Past (fun _ => False) B' t' ∧ w'.tape = w.tape := by
  induction h with
  | @stop g w hr hp hs =>
    rintro gs w₁ sl t q B ⟨d, rfl⟩ h0 hL hP
    exact ⟨0, gs, g, w.at d, sl, t, q, B, rfl, rfl, h0, hr, hp, hs w.tape d, hL, hP, rfl⟩
  | @step g w G W M O hr hO _ ih =>
    have main : ∀ (m : Nat) (gs : Array Goroutine) (w₁ : World) (sl : Option (Nat × Nat)) (t : Trace) (q : Nat → Nat) (B : Nat), sumTo gs.size q = m → (∃ d, w₁ = w.at d) → gs[0]? = some g → Leavers P t gs q → Past (fun _ => False) B t →
        ∃ N gs' g' w' sl' t' q' B', runNT P N (crowd gs w₁ sl) t = (.next (crowd gs' w' sl'), t') ∧ gs'.size = gs.size ∧ gs'[0]? = some g' ∧ g'.status = .running ∧ PlainG g' ∧ Stop g' w' ∧ Leavers P t' gs' q' ∧ Past (fun _ => False) B' t' ∧ w'.tape = w.tape := by
      intro m
      induction m using Nat.strongRecOn with
      | ind m ihm =>
        rintro gs w₁ sl t q B hm ⟨d₀, rfl⟩ h0 hL hP
        have haw : ∀ x ∈ gs, awake x := by
          intro x hx
          obtain ⟨i, hi, rfl⟩ := Array.mem_iff_getElem.1 hx
          rcases Nat.eq_zero_or_pos i with rfl | hpos
          · have : gs[0] = g := by simpa [Array.getElem?_eq_getElem hi] using h0
            rw [this]; exact awake_of (.inl hr)
          · exact awake_of ((hL.old i _ hpos (Array.getElem?_eq_getElem hi)).status.elim .inl fun x => .inr (.inr x))
        have hlt0 : 0 < gs.size := (Array.getElem?_eq_some_iff.1 h0).1
        obtain ⟨i, x, d, sl', hi, hx, hst⟩ := crowd_pick (P := P) (w := w.at d₀) (sl := sl) haw ⟨0, g, h0, hr⟩
        rcases Nat.eq_zero_or_pos i with rfl | hpos
        · have hOd := hO d
          obtain ⟨gs₁, e, k0, k1, k2⟩ := hOd.does gs sl' w.tape d (Leavers.easy hL) h0 fun _ _ => rfl
          obtain ⟨B₁, hB₁, hP₁⟩ := Past.own0 hP hOd.own (hOd.deaf t)
          obtain ⟨N, gs', g', w', sl'', t', q', B', hr', z1, z2, z3, z4, z5, z6, z7, z8⟩ := ih d gs₁ (On (W d) w.tape (d + M d)) sl' (t ++ O d) q B₁ ⟨d + M d, by
            have : (W d).tape = w.tape := hOd.tape
            show On (W d) w.tape (d + M d) = On (W d) (W d).tape (d + M d)
            rw [this]⟩ k0 (Leavers.own0 hL hOd.own k2 hlt0 k1) hP₁
          refine ⟨N + 1, gs', g', w', sl'', t', q', B', ?_, z1.trans k2, z2, z3, z4, z5, z6, z7, z8.trans hOd.tape⟩
          have hst' : stepT P (crowd gs (w.at d₀) sl) = (.next (crowd gs₁ (On (W d) w.tape (d + M d)) sl'), O d) := hst.trans e
          simp only [runNT, hst']
          exact hr'
        · obtain ⟨g', ops, k, hqi, e, k1, k2, k3, k4⟩ := slip (P := P) (w := (w.at d₀).at d) (sl := sl') hi hpos hx (hL.old i x hpos hi)
          have hlt : i < gs.size := (Array.getElem?_eq_some_iff.1 hi).1
          have hsz : ((gs.map (woken P x g' ((w.at d₀).at d))).setIfInBounds i g').size = gs.size := by simp
          have hsum : sumTo gs.size (upd q i k) < m := by
            have h2 : sumTo gs.size (upd q i k) + (k + 1) = sumTo gs.size q + k := by
              have := sumTo_upd q k id hlt
              simpa [hqi] using this
            omega
          have hne : ∀ j, j ≠ i → ((gs.map (woken P x g' ((w.at d₀).at d))).setIfInBounds i g')[j]? = gs[j]? := by
            intro j hj
            rw [Array.getElem?_setIfInBounds_ne (fun z => hj z.symm)]
            rcases Nat.eq_zero_or_pos j with rfl | hjp
            · rw [Array.getElem?_map, h0]
              simp [woken_run hr]
            · exact (Leavers.easy hL).woken hjp _ _ _
          obtain ⟨N, gs', g'', w', sl'', t', q', B', hr', z1, z2, z3, z4, z5, z6, z7, z8⟩ := ihm _ hsum ((gs.map (woken P x g' ((w.at d₀).at d))).setIfInBounds i g') ((w.at d₀).at d) sl' (t ++ ops) (upd q i k) B (by rw [hsz]) ⟨d, rfl⟩
            (by rw [hne 0 (by omega)]; exact h0) ⟨fun j y hj hy => by
              by_cases hji : j = i
              · subst hji
                rw [Array.getElem?_setIfInBounds_self_of_lt (by simpa using hlt)] at hy
                obtain rfl := Option.some.inj hy
                rw [upd_same]; exact k4
              · rw [hne j hji] at hy
                rw [upd_ne q k hji, Deaf_other t (g' := i) (fun z => hji z.symm) ops k1]
                exact hL.old j y hj hy, fun j hj => by
              rw [Deaf_other t (g' := i) (by omega) ops k1]
              exact hL.above j (by omega)⟩ (hP.appMute (by omega) k1 k2 (k3 B))
          refine ⟨N + 1, gs', g'', w', sl'', t', q', B', ?_, z1.trans hsz, z2, z3, z4, z5, z6, z7, z8⟩
          have hst' := hst.trans e
          simp only [runNT, hst']
          exact hr'
    exact fun gs w₁ sl t q B hw h0 hL hP => main _ gs w₁ sl t q B rfl hw h0 hL hP

end

section
open Go Go.Conc
open Go.ConcN (sumTo upd sumTo_upd upd_ne upd_same)

/-- A plain read of a cell. -/
def EvP (e : Event) : Prop := ∃ a, e = ⟨.cell a, false, false⟩
/-- The step turns nothing but the count of draws, and reads alone. -/
def DR (w w' : World) (es : Array Event) : Prop := (∃ d, w' = w.at d) ∧ ∀ e ∈ es, EvP e
/-- Whatever the others do: all but channel c's block is as in W. -/
def RA (c : Nat) (W : World) (_ w₁ : World) : Prop := Aside c W w₁

section
variable (P : Program) (c : Nat) (W : World) (z : Value) (Fin : Goroutine → Prop)
/-- The receiver stands at the receive; g₂: the record that stands there. -/
def AtRcv (Next : Goroutine → Prop) (g : Goroutine) : Prop := g.status = .running ∧ ∃ es, (∀ e ∈ es, EvP e) ∧ ∃ g₂, g.frame = g₂.frame ∧ g.callers = g₂.callers ∧ g.dying = g₂.dying ∧ Next g₂ ∧ ∀ w, Aside c W w → stepG P true g w = .comm g₂ #[rcase c z] true (.recv true) w es
def Rcv : List Value → Goroutine → Prop
  | [], g => ∃ n, Goes P true (RA c W) DR (fun g _ => AtRcv P c W z (fun g₂ => Fin (Go.Conc.served g₂ (recvd true z false))) g) n g default
  | v :: vs, g => ∃ n, Goes P true (RA c W) DR (fun g _ => AtRcv P c W z (fun g₂ => Rcv vs (Go.Conc.served g₂ (recvd true v true))) g) n g default
def NextR : List Value → Goroutine → Prop
  | [] => fun g₂ => Fin (Go.Conc.served g₂ (recvd true z false))
  | v :: vs => fun g₂ => Rcv P c W z Fin vs (Go.Conc.served g₂ (recvd true v true))
theorem rcv_iff (vs : List Value) (g : Goroutine) : Rcv P c W z Fin vs g ↔ ∃ n, Goes P true (RA c W) DR (fun g _ => AtRcv P c W z (NextR P c W z Fin vs) g) n g default := by
  cases vs <;> exact Iff.rfl
def AtSnd (v : Value) (Next : Goroutine → Prop) (g : Goroutine) : Prop :=
  g.status = .running ∧ ∃ g₂ z' es, (∀ e ∈ es, EvP e) ∧ (∀ w, Aside c W w → stepG P false g w = .comm g₂ #[scase c v z'] true .send w es) ∧ Next (Go.Conc.served g₂ undef)
def AtCls (g : Goroutine) : Prop :=
  g.status = .running ∧ mayWake P g = true ∧ ∃ g₂ n, g₂.status = .running ∧ (∀ w s, Aside c W w → w.heap[c]? = some (.chan 0 #[] false s s false) → stepG P false g w = .go g₂ (w.setChan c 0 #[] true s s false) (closeEvents c)) ∧ QuitsD P n 0 g₂
def Snd : List Value → Goroutine → Prop
  | [], g => ∃ n, Goes P false (RA c W) DR (fun g _ => AtCls P c W g) n g default
  | v :: vs, g => ∃ n, Goes P false (RA c W) DR (fun g _ => AtSnd P c W v (Snd vs) g) n g default
def StopS : List Value → Goroutine → Prop
  | [] => AtCls P c W
  | v :: vs => AtSnd P c W v (Snd P c W vs)
theorem snd_iff (vs : List Value) (g : Goroutine) : Snd P c W vs g ↔ ∃ n, Goes P false (RA c W) DR (fun g _ => StopS P c W vs g) n g default := by
  cases vs <;> exact Iff.rfl

/-- The receiver: on its way to the receive, or parked there (n = 0). -/
def RSt (vs : List Value) (n : Nat) (g : Goroutine) : Prop :=
  (∃ k, n = k + 1 ∧ Goes P true (RA c W) DR (fun g _ => AtRcv P c W z (NextR P c W z Fin vs) g) k g default) ∨
  (n = 0 ∧ ∃ g₂, g = parked g₂ #[rcase c z] (.recv true) ∧ AtRcv P c W z (NextR P c W z Fin vs) { g with status := .running } ∧ NextR P c W z Fin vs g₂)
def SSt (vs : List Value) (n : Nat) (g : Goroutine) : Prop :=
  (∃ k, n = k + 1 ∧ Goes P false (RA c W) DR (fun g _ => StopS P c W vs g) k g default) ∨
  (n = 0 ∧ ∃ v vs' g₂ z', vs = v :: vs' ∧ g = parked g₂ #[scase c v z'] .send ∧ Snd P c W vs' (Go.Conc.served g₂ undef))
end

section
variable {P : Program} {c : Nat} {W : World} {z : Value} {Fin : Goroutine → Prop} {main : Bool} {Stop : Goroutine → Prop}
theorem goes_cases {k : Nat} {g : Goroutine} {w : World} (h : Goes P main (RA c W) DR (fun g _ => Stop g) k g default) (hw : Aside c W w) :
    Stop g ∨ ∃ k' g' d es, k = k' + 1 ∧ g.status = .running ∧ stepG P main g w = .go g' (w.at d) es ∧ (∀ e ∈ es, EvP e) ∧ Goes P main (RA c W) DR (fun g _ => Stop g) k' g' default := by
  cases k with
  | zero => exact .inl (h w hw)
  | succ k =>
    rcases h with h | ⟨hr, h⟩
    · exact .inl (h w hw)
    · obtain ⟨g', w', es, e, ⟨⟨d, hd⟩, hes⟩, hg⟩ := goes_elim (h w hw)
      refine .inr ⟨k, g', d, es, rfl, hr, by rw [e, hd], hes, ?_⟩
      cases k <;> exact hg
theorem goes_run {k : Nat} {g : Goroutine} {w : World} (hs : ∀ g, Stop g → g.status = .running) (h : Goes P main (RA c W) DR (fun g _ => Stop g) k g default) (hw : Aside c W w) : g.status = .running :=
  (goes_cases h hw).elim (hs g) fun ⟨_, _, _, _, _, h, _⟩ => h
theorem RSt.status {vs : List Value} {n : Nat} {g : Goroutine} {w : World} (hw : Aside c W w) (h : RSt P c W z Fin vs n g) : (g.status = .running ∧ 0 < n) ∨ (g.status = .blocked ∧ n = 0) := by
  rcases h with ⟨k, rfl, h⟩ | ⟨rfl, g₂, rfl, _⟩
  · exact .inl ⟨goes_run (fun g h => h.1) h hw, by omega⟩
  · exact .inr ⟨rfl, rfl⟩
theorem SSt.status {vs : List Value} {n : Nat} {g : Goroutine} {w : World} (hw : Aside c W w) (h : SSt P c W vs n g) : (g.status = .running ∧ 0 < n) ∨ (g.status = .blocked ∧ n = 0) := by
  rcases h with ⟨k, rfl, h⟩ | ⟨rfl, v, vs', g₂, z', _, rfl, _⟩
  · exact .inl ⟨goes_run (fun g h => by cases vs <;> exact h.1) h hw, by omega⟩
  · exact .inr ⟨rfl, rfl⟩

theorem evP_ops {i : Nat} {fn : FuncId} {pos : String} {es : Array Event} (h : ∀ e ∈ es, EvP e) :
    (∀ op ∈ MemOp.ofEvents i fn pos es, op.g = i) ∧ (∀ op ∈ MemOp.ofEvents i fn pos es, ∀ b, op.act.touch? = some b → b.write = false ∧ b.loc.isMemory = true) ∧ ∀ t : Trace, Deaf (t ++ MemOp.ofEvents i fn pos es) i = Deaf t i := by
  refine ⟨fun op hop => by obtain ⟨e, _, rfl⟩ := Go.Conc.mem_ofEvents hop; rfl, fun op hop b hb => ?_, fun t => ?_⟩
  · obtain ⟨e, he, rfl⟩ := Go.Conc.mem_ofEvents hop
    obtain ⟨a, rfl⟩ := h e he
    simp only [ofEvent_cell0, MemAct.touch?, Option.some.injEq] at hb
    subst hb
    exact ⟨rfl, rfl⟩
  · rw [Deaf_own]
    exact deafBehind_still (fun e he => by obtain ⟨a, rfl⟩ := h e he; exact ⟨by simp, by simp⟩) _

/-- THE TRACE while they go: goroutine 0 holds; k is loose. -/
def PastP (M : Nat → Prop) (k B : Nat) (T : Trace) : Prop := PastH (fun l => l.isMemory = true) M (fun g => g = k) B 0 T
theorem PastP.mono {M : Nat → Prop} {k B B' : Nat} {T : Trace} (h : PastP M k B T) (hB : B ≤ B') : PastP M k B' T := PastG.mono h hB
theorem PastP.read0 {M : Nat → Prop} {k B : Nat} {T : Trace} (h : PastP M k B T) {fn : FuncId} {pos : String} {es : Array Event} (hes : ∀ e ∈ es, EvP e) : ∃ B', B ≤ B' ∧ PastP M k B' (T ++ MemOp.ofEvents 0 fn pos es) := by
  obtain ⟨h1, h2, h3⟩ := evP_ops (i := 0) (fn := fn) (pos := pos) hes
  obtain ⟨B₁, hB⟩ := low_all (MemOp.ofEvents 0 fn pos es)
  exact ⟨max B B₁, Nat.le_max_left _ _, PastH.appH (PastG.mono h (Nat.le_max_left _ _)) h1 (fun op hop b hb _ => (h2 op hop b hb).1) (h3 T) fun op hop => MemAct.low_mono (Nat.le_max_right _ _) (hB op hop)⟩
theorem PastP.readK {M : Nat → Prop} {k B : Nat} {T : Trace} (h : PastP M k B T) (hM : M k) {fn : FuncId} {pos : String} {es : Array Event} (hes : ∀ e ∈ es, EvP e) : ∃ B', B ≤ B' ∧ PastP M k B' (T ++ MemOp.ofEvents k fn pos es) := by
  obtain ⟨h1, h2, h3⟩ := evP_ops (i := k) (fn := fn) (pos := pos) hes
  obtain ⟨B₁, hB⟩ := low_all (MemOp.ofEvents k fn pos es)
  exact ⟨max B B₁, Nat.le_max_left _ _, PastH.appRead (PastG.mono h (Nat.le_max_left _ _)) hM rfl h1 (fun op hop b hb => h2 op hop b hb) (h3 T) fun op hop => MemAct.low_mono (Nat.le_max_right _ _) (hB op hop)⟩
theorem PastP.mute {M : Nat → Prop} {k B i : Nat} {T : Trace} (h : PastP M k B T) {ops : Array MemOp} (hi : ¬ M i) (ho : ∀ op ∈ ops, op.g = i) (hn : ∀ op ∈ ops, op.act.touch? = none) (hl : ∀ op ∈ ops, op.act.low B) : PastP M k B (T ++ ops) :=
  PastH.appMute h ho hn (fun hm => absurd hm hi) hl
/-- Operations of theirs that touch nothing and turn no deafness. -/
theorem PastP.quiet {M : Nat → Prop} {k B : Nat} {T : Trace} (h : PastP M k B T) {ops : Array MemOp} (hn : ∀ op ∈ ops, op.act.touch? = none) (hq : ∀ g, ∀ op ∈ ops, ∀ d, deafStep g d op = d) : ∃ B', B ≤ B' ∧ PastP M k B' (T ++ ops) := by
  obtain ⟨B₁, hB⟩ := low_all ops
  have h' : PastP M k (max B B₁) T := h.mono (Nat.le_max_left _ _)
  refine ⟨max B B₁, Nat.le_max_left _ _, ⟨fun said => noRace_appendMute (h'.clean said) hn, fun i a ha hm => ?_, fun i a ha hw hS g hg => ?_, fun g hg => (Deaf_quiet (hq g)).trans (h'.hears g hg), seen_app h'.seen fun op hop => MemAct.low_mono (Nat.le_max_right _ _) (hB op hop)⟩⟩
  · obtain ⟨x, hx, hxa⟩ := touch_of ha
    rcases getElem?_append_cases hx with ⟨_, hx'⟩ | ⟨_, hxu⟩
    · exact PastG.old_known h' (fun i => Knows.app ops) hx' hxa hm
    · rw [hn x hxu] at hxa; cases hxa
  · obtain ⟨x, hx, hxa⟩ := touch_of ha
    rcases getElem?_append_cases hx with ⟨_, hx'⟩ | ⟨_, hxu⟩
    · exact (h'.wrote i a (by rw [touchAt_of hx']; exact hxa) hw hS g hg).app ops
    · rw [hn x hxu] at hxa; cases hxa

/-- k has closed the channel at m, and has touched nothing since. -/
structure Shut (c k : Nat) (T : Trace) (m : Nat) : Prop where
  act : T.act? m = some (.close c)
  who : T.g? m = some k
  heard : T.heard m
  last : ∀ i op, T[i]? = some op → op.g = k → op.act.touch? ≠ none → i < m
theorem Shut.app {k m : Nat} {T u : Trace} (h : Shut c k T m) (hu : ∀ op ∈ u, op.g = k → op.act.touch? = none) : Shut c k (T ++ u) m := by
  have hlt : m < T.size := lt_of_act? h.act
  refine ⟨by rw [act?_old hlt]; exact h.act, by rw [g?_old hlt]; exact h.who, ?_, fun i op hi hg ht => ?_⟩
  · obtain ⟨g, hg, hd⟩ := h.heard
    exact ⟨g, by rw [g?_old hlt]; exact hg, by rw [deaf_old (Nat.le_of_lt hlt)]; exact hd⟩
  · rcases getElem?_append_cases hi with ⟨_, hi'⟩ | ⟨_, hiu⟩
    · exact h.last i op hi' hg ht
    · exact absurd (hu op hiu hg) ht

/-- THE RECEIVE THAT FINDS THE CHANNEL CLOSED: goroutine 0 knows all. -/
theorem PastP.take {M : Nat → Prop} {k B m : Nat} {T : Trace} (h : PastP M k B T) (hM : M 0) (hs : Shut c k T m) (fn : FuncId) (pos : String) : ∃ B', B ≤ B' ∧ Past (fun _ => False) B' (T ++ #[{ g := 0, fn := fn, pos := pos, act := .recvClosed c }]) := by
  have hn : ∀ op ∈ (#[{ g := 0, fn := fn, pos := pos, act := .recvClosed c }] : Trace), op.act.touch? = none := by
    intro op hop
    simp only [List.mem_toArray, List.mem_cons, List.not_mem_nil, or_false] at hop
    subst hop; rfl
  have hq : ∀ g, ∀ op ∈ (#[{ g := 0, fn := fn, pos := pos, act := .recvClosed c }] : Trace), ∀ d, deafStep g d op = d := by
    intro g op hop d
    simp only [List.mem_toArray, List.mem_cons, List.not_mem_nil, or_false] at hop
    subst hop; rfl
  obtain ⟨B', hB, h'⟩ := h.quiet hn hq
  refine ⟨B', hB, ?_⟩
  have hlt : m < T.size := lt_of_act? hs.act
  generalize hu : (#[{ g := 0, fn := fn, pos := pos, act := .recvClosed c }] : Trace) = u at *
  have e0 : (T ++ u)[T.size]? = some { g := 0, fn := fn, pos := pos, act := .recvClosed c } := by subst hu; simp
  have hs' : Shut c k (T ++ u) m := hs.app fun op hop _ => hn op hop
  have edge : HappensBefore (T ++ u) m T.size :=
    Relation.TransGen.single (.inr ⟨.closed hs'.act (act?_of e0), hs'.heard, ⟨0, g?_of e0, by rw [deaf_old (Nat.le_refl _)]; exact h.hears 0 hM⟩⟩)
  obtain ⟨om, hom, _⟩ := Option.map_eq_some_iff.1 (show ((T ++ u)[m]?).map (·.g) = some k from hs'.who)
  have hall : PastH (fun l => l.isMemory = true) M (fun _ => False) B' 0 (T ++ u) := by
    refine ⟨h'.clean, fun i a ha hm => ?_, h'.wrote, h'.hears, h'.seen⟩
    rcases h'.known i a ha hm with hk' | ⟨_, _, g, hg, rfl⟩
    · exact .inl hk'
    · obtain ⟨x, hx, hxa⟩ := touch_of ha
      have hxg : x.g = g := by have := g?_of hx; rw [hg] at this; exact (Option.some.inj this).symm
      have hlt' := hs'.last i x hx hxg (by rw [hxa]; simp)
      have homg : om.g = g := by have := g?_of hom; rw [hs'.who] at this; exact (Option.some.inj this).symm
      exact .inl ⟨T.size, _, e0, rfl, .inr ((hb_po hlt' hx hom (hxg.trans homg.symm)).trans edge)⟩
  exact PastH.toPast hall hM fun _ x => x
end

end

open Go Go.Conc
open Go.ConcN (sumTo upd sumTo_upd upd_ne upd_same)

/-- The machine comes to a frame in which goroutine 0 has heard the last word, and all others only leave. -/
def Done (P : Program) (c : Nat) (W : World) (Fin : Goroutine → Prop) (sz : Nat) (m : Machine) (T : Trace) : Prop :=
  ∃ N gs' a w' sl' T' q' B', runNT P N m T = (.next (crowd gs' w' sl'), T') ∧ gs'.size = sz ∧ gs'[0]? = some a ∧ a.status = .running ∧ Fin a ∧ Aside c W w' ∧ Leavers P T' gs' q' ∧ Past (fun _ => False) B' T'
theorem Done.step {P : Program} {c : Nat} {W : World} {Fin : Goroutine → Prop} {sz : Nat} {m m' : Machine} {T : Trace} {ops : Array MemOp} (h : stepT P m = (.next m', ops)) (h' : Done P c W Fin sz m' (T ++ ops)) : Done P c W Fin sz m T := by
  obtain ⟨N, gs', a, w', sl', T', q', B', e, r⟩ := h'
  exact ⟨N + 1, gs', a, w', sl', T', q', B', by simp only [runNT, h]; exact e, r⟩

variable {P : Program} {c : Nat} {W : World} {z : Value} {Fin : Goroutine → Prop}

theorem map_fixed {gs : Array Goroutine} {i : Nat} {g g' : Goroutine} {w : World} (h : ∀ x y, x ≠ i → gs[x]? = some y → y.again w = y) (x : Nat) (hx : x ≠ i) : ((gs.map (woken P g g' w)).setIfInBounds i g')[x]? = gs[x]? := by
  rw [Array.getElem?_setIfInBounds_ne (fun e => hx e.symm), Array.getElem?_map]
  cases e : gs[x]? with
  | none => rfl
  | some y => simp only [Option.map_some, woken_of_again (h x y hx e)]
theorem heap_setChan {w : World} {k s r : Nat} {b : Bool} {tm : Bool} (h : ∃ o, w.heap[k]? = some o) : (w.setChan k 0 #[] b s r tm).heap[k]? = some (.chan 0 #[] b s r tm) := by
  obtain ⟨o, h⟩ := h
  have hlt : k < w.heap.size := (Array.getElem?_eq_some_iff.1 h).1
  simp [World.setChan, hlt]
theorem aside_setChan {w : World} (h : Aside c W w) (b : Bool) (s r : Nat) (tm : Bool) : Aside c W (w.setChan c 0 #[] b s r tm) := h.trans (Aside.put c w _)
theorem aside_at {w : World} (h : Aside c W w) (d : Nat) : Aside c W (w.at d) := h.trans (Aside.at c w d)

/-- Behind the close. -/
structure PhC (P : Program) (c : Nat) (W : World) (z : Value) (Fin : Goroutine → Prop) (k nA : Nat) (gs : Array Goroutine) (w : World) (T : Trace) (q : Nat → Nat) (B : Nat) : Prop where
  pos : k ≠ 0
  recv : ∃ a, gs[0]? = some a ∧ Goes P true (RA c W) DR (fun g _ => AtRcv P c W z (NextR P c W z Fin []) g) nA a default
  old : ∀ i g, 0 < i → gs[i]? = some g → QuitsD P (q i) (Deaf T i) g
  above : ∀ j, gs.size ≤ j → Deaf T j = 0
  chan : ∃ s, w.heap[c]? = some (.chan 0 #[] true s s false)
  keep : Aside c W w
  past : PastP (fun g => g = 0) k B T
  shut : ∃ m, Shut c k T m

theorem phC_run {k : Nat} : ∀ (M nA : Nat) (gs : Array Goroutine) (w : World) (sl : Option (Nat × Nat)) (T : Trace) (q : Nat → Nat) (B : Nat), nA + sumTo gs.size q = M → PhC P c W z Fin k nA gs w T q B → Done P c W Fin gs.size (crowd gs w sl) T := by
  intro M
  induction M using Nat.strongRecOn with
  | ind M ih =>
    intro nA gs w sl T q B hM h
    obtain ⟨hk, ⟨a, h0, hgo⟩, hold, habove, ⟨s, hchan⟩, hkeep, hpast, ⟨m, hshut⟩⟩ := h
    have ha : a.status = .running := goes_run (fun g h => h.1) hgo hkeep
    have hlt0 : 0 < gs.size := (Array.getElem?_eq_some_iff.1 h0).1
    have haw : ∀ x ∈ gs, awake x := by
      intro x hx
      obtain ⟨i, hi, rfl⟩ := Array.mem_iff_getElem.1 hx
      rcases Nat.eq_zero_or_pos i with rfl | hpos
      · have : gs[0] = a := by simpa [Array.getElem?_eq_getElem hi] using h0
        rw [this]; exact awake_of (.inl ha)
      · exact awake_of ((hold i _ hpos (Array.getElem?_eq_getElem hi)).status.elim .inl fun x => .inr (.inr x))
    obtain ⟨i, x, d, sl', hi, hx, hst⟩ := crowd_pick (P := P) (w := w) (sl := sl) haw ⟨0, a, h0, ha⟩
    have hkeep1 : Aside c W (w.at d) := aside_at hkeep d
    have hagain : ∀ (x : Nat) (y : Goroutine), gs[x]? = some y → y.again (w.at d) = y := by
      intro x y hy
      rcases Nat.eq_zero_or_pos x with rfl | hpos
      · rw [h0] at hy; obtain rfl := Option.some.inj hy; exact again_of_running (.inl ha) _
      · exact again_of_running (hold x y hpos hy).status _
    rcases Nat.eq_zero_or_pos i with rfl | hpos
    · obtain rfl : x = a := by rw [h0] at hi; exact (Option.some.inj hi).symm
      rcases goes_cases hgo hkeep1 with hstop | ⟨k', g', d', es, rfl, _, hstep, hes, hgo'⟩
      · -- it hears the last word
        obtain ⟨_, es, hes, g₂, _, _, _, hfin, hcomm⟩ := hstop
        have hcalm : partners (gs.setIfInBounds 0 ph) c true = [] := partners_nil fun j y hj => by
          rcases Nat.eq_zero_or_pos j with rfl | hjp
          · rw [Array.getElem?_setIfInBounds_self_of_lt hlt0] at hj
            obtain rfl := Option.some.inj hj; exact offersAt_ph _ _
          · rw [Array.getElem?_setIfInBounds_ne (by omega)] at hj
            refine offersAt_of_not_blocked (fun hb => ?_) _ _
            rcases (hold j y hjp hj).status with e | e <;> rw [e] at hb <;> cases hb
        have hrun := crowd_recv_closed (P := P) (sl := sl') (i := 0) h0 (show stepG P (0 == 0) x (w.at d) = _ from hcomm _ hkeep1) (show (w.at d).heap[c]? = some (.chan 0 #[] true s s false) from hchan) hcalm
        rw [finishComm_recv] at hrun
        obtain ⟨B₁, hB₁, p1⟩ := hpast.read0 (fn := x.frame.fn) (pos := x.frame.place) hes
        obtain ⟨ho, _, hdf⟩ := evP_ops (i := 0) (fn := x.frame.fn) (pos := x.frame.place) hes
        obtain ⟨B₂, hB₂, p2⟩ := p1.take rfl (hshut.app fun op hop hg => by have := ho op hop; omega) g₂.frame.fn g₂.frame.place
        have hown : ∀ op ∈ MemOp.ofEvents 0 x.frame.fn x.frame.place es ++ #[{ g := 0, fn := g₂.frame.fn, pos := g₂.frame.place, act := .recvClosed c }], op.g = 0 := fun op hop => by
          rcases Array.mem_append.1 hop with hop | hop
          · exact ho op hop
          · simp only [List.mem_toArray, List.mem_cons, List.not_mem_nil, or_false] at hop
            subst hop; rfl
        refine Done.step (hst.trans hrun) ⟨0, _, _, w.at d, sl', _, q, B₂, rfl, by simp, by rw [Array.getElem?_setIfInBounds_self_of_lt hlt0], rfl, hfin, hkeep1, Leavers.own0 (gs := gs) ⟨hold, habove⟩ hown (by simp) hlt0 (fun i hi => by rw [Array.getElem?_setIfInBounds_ne (by omega)]), by rw [← Array.append_assoc]; exact p2⟩
      · have hrun := runT_crowd_go (P := P) (sl := sl') (i := 0) h0 (show stepG P (0 == 0) x (w.at d) = _ from hstep)
        obtain ⟨B₁, hB₁, p1⟩ := hpast.read0 (fn := x.frame.fn) (pos := x.frame.place) hes
        obtain ⟨ho, _, hdf⟩ := evP_ops (i := 0) (fn := x.frame.fn) (pos := x.frame.place) hes
        have hfix := map_fixed (P := P) (gs := gs) (i := 0) (g := x) (g' := g') (w := (w.at d).at d') fun x y _ hy => hagain x y hy
        have hsz : ((gs.map (woken P x g' ((w.at d).at d'))).setIfInBounds 0 g').size = gs.size := by simp
        refine Done.step (hst.trans hrun) ?_
        have := ih (k' + sumTo gs.size q) (by omega) k' ((gs.map (woken P x g' ((w.at d).at d'))).setIfInBounds 0 g') ((w.at d).at d') sl' _ q B₁ (by rw [hsz]) ⟨hk, ⟨g', by rw [Array.getElem?_setIfInBounds_self_of_lt (by simpa using hlt0)], hgo'⟩, fun i y hip hy => by
            rw [hfix i (by omega)] at hy
            rw [Deaf_other T (g' := 0) (by omega) _ ho]
            exact hold i y hip hy, fun j hj => by
            rw [Deaf_other T (g' := 0) (by omega) _ ho]
            exact habove j (by rw [hsz] at hj; exact hj), ⟨s, hchan⟩, aside_at hkeep1 d', p1, ⟨m, hshut.app fun op hop hg => by have := ho op hop; omega⟩⟩
        rw [hsz] at this
        exact this
    · obtain ⟨g', ops, k', hqi, hrun, k1, k2, k3, k4⟩ := slip (P := P) (w := w.at d) (sl := sl') hi hpos hx (hold i x hpos hi)
      have hlt : i < gs.size := (Array.getElem?_eq_some_iff.1 hi).1
      have hfix := map_fixed (P := P) (gs := gs) (i := i) (g := x) (g' := g') (w := w.at d) fun x y _ hy => hagain x y hy
      have hsz : ((gs.map (woken P x g' (w.at d))).setIfInBounds i g').size = gs.size := by simp
      have hsum : sumTo gs.size (upd q i k') + (k' + 1) = sumTo gs.size q + k' := by
        have := sumTo_upd q k' id hlt
        simpa [hqi] using this
      refine Done.step (hst.trans hrun) ?_
      have p1 := hpast.mute (i := i) (by omega) k1 k2 (k3 B)
      have := ih (nA + sumTo gs.size (upd q i k')) (by omega) nA ((gs.map (woken P x g' (w.at d))).setIfInBounds i g') (w.at d) sl' _ (upd q i k') B (by rw [hsz]) ⟨hk, ⟨a, by rw [hfix 0 (by omega)]; exact h0, hgo⟩, fun j y hjp hy => by
          by_cases hji : j = i
          · subst hji
            rw [Array.getElem?_setIfInBounds_self_of_lt (by simpa using hlt)] at hy
            obtain rfl := Option.some.inj hy
            rw [upd_same]; exact k4
          · rw [hfix j hji] at hy
            rw [upd_ne q k' hji, Deaf_other T (g' := i) (fun e => hji e.symm) ops k1]
            exact hold j y hjp hy, fun j hj => by
          rw [Deaf_other T (g' := i) (by simp at hj; omega) ops k1]
          exact habove j (by simpa using hj), ⟨s, hchan⟩, hkeep1, p1, ⟨m, hshut.app fun op hop _ => k2 op hop⟩⟩
      rw [hsz] at this
      exact this

end

open Go Go.Conc
open Go.ConcN (sumTo upd sumTo_upd upd_ne upd_same)
variable {P : Program} {c : Nat} {W : World} {z : Value} {Fin : Goroutine → Prop}

structure PhA (P : Program) (c : Nat) (W : World) (z : Value) (Fin : Goroutine → Prop) (k : Nat) (vs : List Value) (nA nB : Nat) (gs : Array Goroutine) (w : World) (T : Trace) (q : Nat → Nat) (B : Nat) : Prop where
  pos : k ≠ 0
  recv : ∃ a, gs[0]? = some a ∧ RSt P c W z Fin vs nA a
  send : ∃ b, gs[k]? = some b ∧ SSt P c W vs nB b
  both : nA ≠ 0 ∨ nB ≠ 0
  old : ∀ i g, 0 < i → i ≠ k → gs[i]? = some g → QuitsD P (q i) (Deaf T i) g
  above : ∀ j, gs.size ≤ j → Deaf T j = 0
  chan : ∃ s, w.heap[c]? = some (.chan 0 #[] false s s false)
  keep : Aside c W w
  past : PastP (fun g => g = 0 ∨ g = k) k B T

theorem PastP.closeK {M : Nat → Prop} {k B : Nat} {T : Trace} (h : PastP M k B T) (hM : M k) (fn : FuncId) (pos : String) :
    (∃ B', B ≤ B' ∧ PastP M k B' (T ++ MemOp.ofEvents k fn pos (closeEvents c))) ∧ Shut c k (T ++ MemOp.ofEvents k fn pos (closeEvents c)) (T.size + 1) ∧ (∀ op ∈ MemOp.ofEvents k fn pos (closeEvents c), op.g = k) := by
  have hops := closeOps k fn pos c
  have hown : ∀ op ∈ MemOp.ofEvents k fn pos (closeEvents c), op.g = k := fun op hop => by obtain ⟨e, _, rfl⟩ := Go.Conc.mem_ofEvents hop; rfl
  have hq : ∀ g, ∀ op ∈ MemOp.ofEvents k fn pos (closeEvents c), ∀ d, deafStep g d op = d := by
    intro g op hop d
    rw [hops] at hop
    simp only [List.mem_toArray, List.mem_cons, List.not_mem_nil, or_false] at hop
    rcases hop with rfl | rfl <;> rfl
  have hr : ∀ op ∈ MemOp.ofEvents k fn pos (closeEvents c), ∀ b, op.act.touch? = some b → b.write = false ∧ b.loc.isMemory = true := by
    intro op hop b hb
    rw [hops] at hop
    simp only [List.mem_toArray, List.mem_cons, List.not_mem_nil, or_false] at hop
    rcases hop with rfl | rfl
    · simp only [MemAct.touch?, Option.some.injEq] at hb; subst hb; exact ⟨rfl, rfl⟩
    · cases hb
  obtain ⟨B₁, hB⟩ := low_all (MemOp.ofEvents k fn pos (closeEvents c))
  have e0 : (T ++ MemOp.ofEvents k fn pos (closeEvents c))[T.size + 1]? = some { g := k, fn := fn, pos := pos, act := .close c } := by rw [at_new, hops]; rfl
  refine ⟨⟨max B B₁, Nat.le_max_left _ _, PastH.appRead (PastG.mono h (Nat.le_max_left _ _)) hM rfl hown hr (Deaf_quiet (hq k)) fun op hop => MemAct.low_mono (Nat.le_max_right _ _) (hB op hop)⟩, ⟨act?_of e0, g?_of e0, ⟨k, g?_of e0, ?_⟩, fun i op hi hg ht => ?_⟩, hown⟩
  · rw [deaf_quiet (hq k) 1 (by rw [hops]; exact Nat.le_succ 1)]
    exact h.hears k hM
  · rcases getElem?_append_cases hi with ⟨hi', _⟩ | ⟨hge, hu⟩
    · omega
    · rcases Nat.lt_or_ge i (T.size + 1) with hlt | hge'
      · exact hlt
      · exfalso
        have hlt2 : i < (T ++ MemOp.ofEvents k fn pos (closeEvents c)).size := lt_size_of_getElem? hi
        rw [Array.size_append, hops] at hlt2
        obtain rfl : i = T.size + 1 := by simp at hlt2; omega
        rw [e0] at hi
        obtain rfl := Option.some.inj hi
        exact ht rfl

theorem comm_quiet {ops : Array MemOp} (h : ∀ op ∈ ops, (∃ n, op.act = .send c n) ∨ (∃ n, op.act = .sendDone c n) ∨ (∃ n p, op.act = .recv c n p) ∨ ∃ n, op.act = .recvDone c n) :
    (∀ op ∈ ops, op.act.touch? = none) ∧ ∀ g, ∀ op ∈ ops, ∀ d, deafStep g d op = d := by
  refine ⟨fun op hop => ?_, fun g op hop d => ?_⟩
  · rcases h op hop with ⟨n, e⟩ | ⟨n, e⟩ | ⟨n, p, e⟩ | ⟨n, e⟩ <;> rw [e] <;> rfl
  · rcases h op hop with ⟨n, e⟩ | ⟨n, e⟩ | ⟨n, p, e⟩ | ⟨n, e⟩ <;> simp only [deafStep, e]

theorem RSt.again {vs : List Value} {n : Nat} {g : Goroutine} {w : World} (hw : Aside c W w) (h : RSt P c W z Fin vs n g) {s : Nat} (hc : w.heap[c]? = some (.chan 0 #[] false s s false)) : g.again w = g := by
  rcases h with ⟨k, rfl, h⟩ | ⟨rfl, g₂, rfl, _⟩
  · exact again_of_running (.inl (goes_run (fun g h => h.1) h hw)) w
  · exact again_recv_open hc
theorem SSt.again {vs : List Value} {n : Nat} {g : Goroutine} {w : World} (hw : Aside c W w) (h : SSt P c W vs n g) {s : Nat} (hc : w.heap[c]? = some (.chan 0 #[] false s s false)) : g.again w = g := by
  rcases h with ⟨k, rfl, h⟩ | ⟨rfl, v, vs', g₂, z', _, rfl, _⟩
  · exact again_of_running (.inl (goes_run (fun g h => by cases vs <;> exact h.1) h hw)) w
  · exact again_send_open hc
theorem SSt.offers {vs : List Value} {n : Nat} {g : Goroutine} {w : World} (hw : Aside c W w) (h : SSt P c W vs n g) : offersAt g c false = [] := by
  rcases h with ⟨k, rfl, h⟩ | ⟨rfl, v, vs', g₂, z', _, rfl, _⟩
  · exact offersAt_of_not_blocked (fun hb => by rw [goes_run (fun g h => by cases vs <;> exact h.1) h hw] at hb; cases hb) _ _
  · exact offersAt_parked_send' _ _ _ _ _ _
theorem RSt.offers {vs : List Value} {n : Nat} {g : Goroutine} {w : World} (hw : Aside c W w) (h : RSt P c W z Fin vs n g) : offersAt g c true = [] := by
  rcases h with ⟨k, rfl, h⟩ | ⟨rfl, g₂, rfl, _⟩
  · exact offersAt_of_not_blocked (fun hb => by rw [goes_run (fun g h => h.1) h hw] at hb; cases hb) _ _
  · exact offersAt_parked_recv' _ _ _ _ _

/-- What one step does to the frame: the next frame, or behind the close. -/
theorem phA_step {k : Nat} {vs : List Value} {nA nB : Nat} {gs : Array Goroutine} {w : World} {sl : Option (Nat × Nat)} {T : Trace} {q : Nat → Nat} {B : Nat} (h : PhA P c W z Fin k vs nA nB gs w T q B) :
    ∃ gs' w' sl' ops q' B', stepT P (crowd gs w sl) = (.next (crowd gs' w' sl'), ops) ∧ gs'.size = gs.size ∧
      ((∃ nA' nB', PhA P c W z Fin k vs nA' nB' gs' w' (T ++ ops) q' B' ∧ nA' + nB' + sumTo gs.size q' < nA + nB + sumTo gs.size q) ∨
       (∃ v vs' nA' nB', vs = v :: vs' ∧ PhA P c W z Fin k vs' nA' nB' gs' w' (T ++ ops) q' B') ∨
       (vs = [] ∧ ∃ nA', PhC P c W z Fin k nA' gs' w' (T ++ ops) q' B')) := by
  obtain ⟨hk, ⟨a, h0, hR⟩, ⟨b, hb0, hS⟩, hboth, hold, habove, ⟨s, hchan⟩, hkeep, hpast⟩ := h
  have hlt0 : 0 < gs.size := (Array.getElem?_eq_some_iff.1 h0).1
  have hltk : k < gs.size := (Array.getElem?_eq_some_iff.1 hb0).1
  have haw : ∀ x ∈ gs, awake x := by
    intro x hx
    obtain ⟨i, hi, rfl⟩ := Array.mem_iff_getElem.1 hx
    rcases Nat.eq_zero_or_pos i with rfl | hpos
    · have : gs[0] = a := by simpa [Array.getElem?_eq_getElem hi] using h0
      rw [this]; exact awake_of ((hR.status hkeep).elim (fun x => .inl x.1) fun x => .inr (.inl x.1))
    · by_cases hik : i = k
      · subst hik
        have : gs[i] = b := by simpa [Array.getElem?_eq_getElem hi] using hb0
        rw [this]; exact awake_of ((hS.status hkeep).elim (fun x => .inl x.1) fun x => .inr (.inl x.1))
      · exact awake_of ((hold i _ hpos hik (Array.getElem?_eq_getElem hi)).status.elim .inl fun x => .inr (.inr x))
  have hsome : ∃ (i : Nat) (g : Goroutine), gs[i]? = some g ∧ g.status = .running := by
    rcases hR.status hkeep with x | x
    · exact ⟨0, a, h0, x.1⟩
    · rcases hS.status hkeep with y | y
      · exact ⟨k, b, hb0, y.1⟩
      · omega
  obtain ⟨i, x, d, sl', hi, hx, hst⟩ := crowd_pick (P := P) (w := w) (sl := sl) haw hsome
  have hkeep1 : Aside c W (w.at d) := aside_at hkeep d
  have hchan1 : (w.at d).heap[c]? = some (.chan 0 #[] false s s false) := hchan
  have hagain : ∀ (x : Nat) (y : Goroutine), gs[x]? = some y → y.again (w.at d) = y := by
    intro x y hy
    rcases Nat.eq_zero_or_pos x with rfl | hpos
    · rw [h0] at hy; obtain rfl := Option.some.inj hy; exact hR.again hkeep1 hchan1
    · by_cases hxk : x = k
      · subst hxk; rw [hb0] at hy; obtain rfl := Option.some.inj hy; exact hS.again hkeep1 hchan1
      · exact again_of_running (hold x y hpos hxk hy).status _
  have hoffO : ∀ (x : Nat) (y : Goroutine) (s : Bool), x ≠ 0 → x ≠ k → gs[x]? = some y → offersAt y c s = [] := fun x y s hx0 hxk hy =>
    offersAt_of_not_blocked (fun hb => by rcases (hold x y (by omega) hxk hy).status with e | e <;> rw [e] at hb <;> cases hb) _ _
  have hne0 : ∀ (y : Goroutine) (j : Nat), 0 < j → (gs.setIfInBounds 0 y)[j]? = gs[j]? := fun y j hj => Array.getElem?_setIfInBounds_ne (by omega)
  have hnek : ∀ (y : Goroutine) (j : Nat), j ≠ k → (gs.setIfInBounds k y)[j]? = gs[j]? := fun y j hj => Array.getElem?_setIfInBounds_ne (by omega)
  have hb' : (k == 0) = false := by simpa using hk
  rcases Nat.eq_zero_or_pos i with rfl | hpos
  · obtain rfl : x = a := by rw [h0] at hi; exact (Option.some.inj hi).symm
    obtain ⟨k', rfl, hgo⟩ : ∃ k', nA = k' + 1 ∧ Goes P true (RA c W) DR (fun g _ => AtRcv P c W z (NextR P c W z Fin vs) g) k' x default := by
      rcases hR with h | ⟨_, g₂, rfl, _⟩
      · exact h
      · cases hx
    rcases goes_cases hgo hkeep1 with hstop | ⟨k'', g', d', es, rfl, _, hstep, hes, hgo'⟩
    · obtain ⟨_, es, hes, g₂, e1, e2, e3, hnext, hcomm⟩ := hstop
      obtain ⟨ho, _, hdf⟩ := evP_ops (i := 0) (fn := x.frame.fn) (pos := x.frame.place) hes
      obtain ⟨B₁, hB₁, p1⟩ := hpast.read0 (fn := x.frame.fn) (pos := x.frame.place) hes
      rcases hS with ⟨kb, rfl, hgoB⟩ | ⟨rfl, v, vs', g₂b, z', rfl, rfl, hsnd⟩
      · -- it waits
        have hbr : b.status = .running := goes_run (fun g h => by cases vs <;> exact h.1) hgoB hkeep
        have hno : partners (gs.setIfInBounds 0 ph) c true = [] := partners_nil fun j y hj => by
          rcases Nat.eq_zero_or_pos j with rfl | hjp
          · rw [Array.getElem?_setIfInBounds_self_of_lt hlt0] at hj
            obtain rfl := Option.some.inj hj; exact offersAt_ph _ _
          · rw [hne0 _ j hjp] at hj
            by_cases hjk : j = k
            · subst hjk; rw [hb0] at hj; obtain rfl := Option.some.inj hj
              exact offersAt_of_not_blocked (fun hb => by rw [hbr] at hb; cases hb) _ _
            · exact hoffO j y true (by omega) hjk hj
        have hrun := crowd_waits (P := P) (sl := sl') (i := 0) h0 (show stepG P (0 == 0) x (w.at d) = _ from hcomm _ hkeep1) (fun cc hcc => by
          rw [List.mem_toArray, List.mem_singleton] at hcc; subst hcc
          exact ways_recv_none hchan1 hno)
        refine ⟨_, _, sl', _, q, B₁, hst.trans hrun, by simp, .inl ⟨0, kb + 1, ⟨hk, ⟨_, Array.getElem?_setIfInBounds_self_of_lt hlt0, .inr ⟨rfl, g₂, rfl, ⟨rfl, es, hes, g₂, rfl, rfl, rfl, hnext, fun w hw => by rw [← hcomm w hw]; exact stepG_same e1.symm e2.symm e3.symm w⟩, hnext⟩⟩, ⟨b, by rw [hne0 _ k (by omega)]; exact hb0, .inl ⟨kb, rfl, hgoB⟩⟩, .inr (by omega), fun j y hjp hjk hy => ?_, fun j hj => ?_, ⟨s, hchan1⟩, hkeep1, p1⟩, by omega⟩⟩
        · rw [hne0 _ j hjp] at hy
          rw [Deaf_other T (g' := 0) (by omega) _ ho]
          exact hold j y hjp hjk hy
        · rw [Deaf_other T (g' := 0) (by simp at hj; omega) _ ho]
          exact habove j (by simpa using hj)
      · -- it meets the sender
        have hpart : partners (gs.setIfInBounds 0 ph) c true = [(k, 0)] := by
          have hk' : (gs.setIfInBounds 0 ph)[k]? = some (parked g₂b #[scase c v z'] .send) := by rw [hne0 _ k (by omega)]; exact hb0
          rw [partners_one hk' fun j y hjk hj => ?_, offersAt_parked_send, if_pos rfl]
          · rfl
          · rcases Nat.eq_zero_or_pos j with rfl | hjp
            · rw [Array.getElem?_setIfInBounds_self_of_lt hlt0] at hj
              obtain rfl := Option.some.inj hj; exact offersAt_ph _ _
            · rw [hne0 _ j hjp] at hj
              exact hoffO j y true (by omega) hjk hj
        have hrun := crowd_recv_meets (P := P) (sl := sl') (i := 0) (j := k) h0 (show stepG P (0 == 0) x (w.at d) = _ from hcomm _ hkeep1) hchan1 hk hb0 hpart
        rw [finishComm_recv, finishComm_send] at hrun
        obtain ⟨nr, hnr⟩ := (rcv_iff P c W z Fin vs' _).1 hnext
        obtain ⟨ns, hns⟩ := (snd_iff P c W vs' _).1 hsnd
        obtain ⟨hcn, hcq⟩ := comm_quiet (c := c) (ops := #[{ g := k, fn := g₂b.frame.fn, pos := g₂b.frame.place, act := .send c s }, { g := 0, fn := g₂.frame.fn, pos := g₂.frame.place, act := .recv c s 0 }, { g := k, fn := g₂b.frame.fn, pos := g₂b.frame.place, act := .sendDone c s }, { g := 0, fn := g₂.frame.fn, pos := g₂.frame.place, act := .recvDone c s }]) (by
          intro op hop
          simp only [List.mem_toArray, List.mem_cons, List.not_mem_nil, or_false] at hop
          rcases hop with rfl | rfl | rfl | rfl
          · exact .inl ⟨_, rfl⟩
          · exact .inr (.inr (.inl ⟨_, _, rfl⟩))
          · exact .inr (.inl ⟨_, rfl⟩)
          · exact .inr (.inr (.inr ⟨_, rfl⟩)))
        obtain ⟨B₂, hB₂, p2⟩ := p1.quiet hcn hcq
        rw [Array.append_assoc] at p2
        refine ⟨_, _, sl', _, q, B₂, hst.trans hrun, by simp, .inr (.inl ⟨v, vs', nr + 1, ns + 1, rfl, ⟨hk, ⟨_, Array.getElem?_setIfInBounds_self_of_lt (by simpa using hlt0), .inl ⟨nr, rfl, hnr⟩⟩, ⟨_, by rw [Array.getElem?_setIfInBounds_ne (by omega), Array.getElem?_setIfInBounds_self_of_lt hltk], .inl ⟨ns, rfl, hns⟩⟩, .inl (by omega), fun j y hjp hjk hy => ?_, fun j hj => ?_, ⟨s + 1, heap_setChan ⟨_, hchan1⟩⟩, aside_setChan hkeep1 _ _ _ _, p2⟩⟩)⟩
        · rw [Array.getElem?_setIfInBounds_ne (by omega), hnek _ j hjk] at hy
          rw [← Array.append_assoc, Deaf_quiet (hcq j), Deaf_other T (g' := 0) (by omega) _ ho]
          exact hold j y hjp hjk hy
        · rw [← Array.append_assoc, Deaf_quiet (hcq j), Deaf_other T (g' := 0) (by simp at hj; omega) _ ho]
          exact habove j (by simpa using hj)
    · have hrun := runT_crowd_go (P := P) (sl := sl') (i := 0) h0 (show stepG P (0 == 0) x (w.at d) = _ from hstep)
      obtain ⟨B₁, hB₁, p1⟩ := hpast.read0 (fn := x.frame.fn) (pos := x.frame.place) hes
      obtain ⟨ho, _, hdf⟩ := evP_ops (i := 0) (fn := x.frame.fn) (pos := x.frame.place) hes
      have hfix := map_fixed (P := P) (gs := gs) (i := 0) (g := x) (g' := g') (w := (w.at d).at d') fun x y _ hy => hagain x y hy
      have hsz : ((gs.map (woken P x g' ((w.at d).at d'))).setIfInBounds 0 g').size = gs.size := by simp
      refine ⟨_, _, sl', _, q, B₁, hst.trans hrun, hsz, .inl ⟨k'' + 1, nB, ⟨hk, ⟨g', by rw [Array.getElem?_setIfInBounds_self_of_lt (by simpa using hlt0)], .inl ⟨k'', rfl, hgo'⟩⟩, ⟨b, by rw [hfix k hk]; exact hb0, hS⟩, .inl (by omega), fun j y hjp hjk hy => ?_, fun j hj => ?_, ⟨s, hchan1⟩, aside_at hkeep1 d', p1⟩, by omega⟩⟩
      · rw [hfix j (by omega)] at hy
        rw [Deaf_other T (g' := 0) (by omega) _ ho]
        exact hold j y hjp hjk hy
      · rw [Deaf_other T (g' := 0) (by rw [hsz] at hj; omega) _ ho]
        exact habove j (by rw [hsz] at hj; exact hj)
  · by_cases hik : i = k
    · rw [hik] at hi hst
      obtain rfl : x = b := by rw [hb0] at hi; exact (Option.some.inj hi).symm
      have hkn : (k == 0) = false := hb'
      obtain ⟨k', rfl, hgo⟩ : ∃ k', nB = k' + 1 ∧ Goes P false (RA c W) DR (fun g _ => StopS P c W vs g) k' x default := by
        rcases hS with h | ⟨_, v, vs', g₂, z', _, rfl, _⟩
        · exact h
        · cases hx
      rcases goes_cases hgo hkeep1 with hstop | ⟨k'', g', d', es, rfl, _, hstep, hes, hgo'⟩
      · cases vs with
        | nil =>
          -- the close
          obtain ⟨_, hwake, g₂, n, hg₂, hcls, hquits⟩ := hstop
          have hrun := runT_crowd_go (P := P) (sl := sl') (i := k) hb0 (show stepG P (k == 0) x (w.at d) = _ by rw [hkn]; exact hcls _ s hkeep1 hchan1)
          obtain ⟨⟨B₁, hB₁, p1⟩, hsh, ho⟩ := hpast.closeK (c := c) (.inr rfl) x.frame.fn x.frame.place
          have hk0 : k ≠ 0 := hk
          have hold' : ∀ (j : Nat) (y : Goroutine), 0 < j → j ≠ k → ((gs.map (woken P x g₂ ((w.at d).setChan c 0 #[] true s s false))).setIfInBounds k g₂)[j]? = some y → gs[j]? = some y := by
            intro j y hjp hjk hy
            rw [Array.getElem?_setIfInBounds_ne (by omega), Array.getElem?_map] at hy
            cases e : gs[j]? with
            | none => rw [e] at hy; cases hy
            | some u =>
              rw [e] at hy
              simp only [Option.map_some, Option.some.injEq] at hy
              rw [woken_of_again (again_of_running (hold j u hjp hjk e).status _)] at hy
              rw [hy]
          have hchan2 : ((w.at d).setChan c 0 #[] true s s false).heap[c]? = some (.chan 0 #[] true s s false) := heap_setChan ⟨_, hchan1⟩
          have hrecv : ∃ nA' a', ((gs.map (woken P x g₂ ((w.at d).setChan c 0 #[] true s s false))).setIfInBounds k g₂)[0]? = some a' ∧ Goes P true (RA c W) DR (fun g _ => AtRcv P c W z (NextR P c W z Fin []) g) nA' a' default := by
            rw [Array.getElem?_setIfInBounds_ne (by omega), Array.getElem?_map, h0]
            rcases hR with ⟨ka, rfl, hgoA⟩ | ⟨rfl, g₂a, rfl, hat, _⟩
            · refine ⟨ka, a, ?_, hgoA⟩
              simp only [Option.map_some, woken_of_again (again_of_running (.inl (goes_run (fun g h => h.1) hgoA hkeep)) _)]
            · refine ⟨0, _, rfl, fun _ _ => ?_⟩
              have : woken P x g₂ ((w.at d).setChan c 0 #[] true s s false) (parked g₂a #[rcase c z] (.recv true)) = { parked g₂a #[rcase c z] (.recv true) with status := .running } := by
                unfold woken
                rw [if_pos (by simp [hwake, hg₂])]
                exact again_recv_closed hchan2
              rw [this]
              exact hat
          obtain ⟨nA', a', hr1, hr2⟩ := hrecv
          refine ⟨_, _, sl', _, upd q k n, B₁, hst.trans hrun, by simp, .inr (.inr ⟨rfl, nA', ⟨hk, ⟨a', hr1, hr2⟩, fun j y hjp hy => ?_, fun j hj => ?_, ⟨s, hchan2⟩, aside_setChan hkeep1 _ _ _ _, PastG.fewer p1 fun g hg => .inl hg, ⟨_, hsh⟩⟩⟩)⟩
          · by_cases hjk : j = k
            · subst hjk
              rw [Array.getElem?_setIfInBounds_self_of_lt (by simpa using hltk)] at hy
              obtain rfl := Option.some.inj hy
              have hd0 : Deaf (T ++ MemOp.ofEvents j x.frame.fn x.frame.place (closeEvents c)) j = 0 := p1.hears j (.inr rfl)
              rw [upd_same, hd0]; exact hquits
            · rw [upd_ne q n hjk, Deaf_other T (g' := k) (fun e => hjk e.symm) _ ho]
              exact hold j y hjp hjk (hold' j y hjp hjk hy)
          · rw [Deaf_other T (g' := k) (by simp at hj; omega) _ ho]
            exact habove j (by simpa using hj)
        | cons v vs' =>
          obtain ⟨_, g₂, z', es, hes, hcomm, hnext⟩ := hstop
          obtain ⟨ho, _, hdf⟩ := evP_ops (i := k) (fn := x.frame.fn) (pos := x.frame.place) hes
          obtain ⟨B₁, hB₁, p1⟩ := hpast.readK (.inr rfl) (fn := x.frame.fn) (pos := x.frame.place) hes
          have hstep : stepG P (k == 0) x (w.at d) = .comm g₂ #[scase c v z'] true .send (w.at d) es := by rw [hkn]; exact hcomm _ hkeep1
          rcases hR with ⟨ka, rfl, hgoA⟩ | ⟨rfl, g₂a, rfl, hat, hnextA⟩
          · -- it waits
            have har : a.status = .running := goes_run (fun g h => h.1) hgoA hkeep
            have hno : partners (gs.setIfInBounds k ph) c false = [] := partners_nil fun j y hj => by
              by_cases hjk : j = k
              · subst hjk
                rw [Array.getElem?_setIfInBounds_self_of_lt hltk] at hj
                obtain rfl := Option.some.inj hj; exact offersAt_ph _ _
              · rw [hnek _ j hjk] at hj
                rcases Nat.eq_zero_or_pos j with rfl | hjp
                · rw [h0] at hj; obtain rfl := Option.some.inj hj
                  exact offersAt_of_not_blocked (fun hb => by rw [har] at hb; cases hb) _ _
                · exact hoffO j y false (by omega) hjk hj
            have hrun := crowd_waits (P := P) (sl := sl') (i := k) hb0 hstep (fun cc hcc => by
              rw [List.mem_toArray, List.mem_singleton] at hcc; subst hcc
              exact ways_send_none hchan1 (Nat.le_refl _) hno)
            refine ⟨_, _, sl', _, q, B₁, hst.trans hrun, by simp, .inl ⟨ka + 1, 0, ⟨hk, ⟨a, by rw [hnek _ 0 (by omega)]; exact h0, .inl ⟨ka, rfl, hgoA⟩⟩, ⟨_, Array.getElem?_setIfInBounds_self_of_lt hltk, .inr ⟨rfl, v, vs', g₂, z', rfl, rfl, hnext⟩⟩, .inl (by omega), fun j y hjp hjk hy => ?_, fun j hj => ?_, ⟨s, hchan1⟩, hkeep1, p1⟩, by omega⟩⟩
            · rw [hnek _ j hjk] at hy
              rw [Deaf_other T (g' := k) (fun e => hjk e.symm) _ ho]
              exact hold j y hjp hjk hy
            · rw [Deaf_other T (g' := k) (by simp at hj; omega) _ ho]
              exact habove j (by simpa using hj)
          · -- it meets the receiver
            have hpart : partners (gs.setIfInBounds k ph) c false = [(0, 0)] := by
              have hk' : (gs.setIfInBounds k ph)[0]? = some (parked g₂a #[rcase c z] (.recv true)) := by rw [hnek _ 0 (by omega)]; exact h0
              rw [partners_one hk' fun j y hj0 hj => ?_, offersAt_parked_recv, if_pos rfl]
              · rfl
              · by_cases hjk : j = k
                · subst hjk
                  rw [Array.getElem?_setIfInBounds_self_of_lt hltk] at hj
                  obtain rfl := Option.some.inj hj; exact offersAt_ph _ _
                · rw [hnek _ j hjk] at hj
                  exact hoffO j y false hj0 hjk hj
            have hrun := crowd_send_meets (P := P) (sl := sl') (i := k) (j := 0) hb0 hstep hchan1 (by omega) h0 hpart
            rw [finishComm_recv, finishComm_send] at hrun
            obtain ⟨nr, hnr⟩ := (rcv_iff P c W z Fin vs' _).1 hnextA
            obtain ⟨ns, hns⟩ := (snd_iff P c W vs' _).1 hnext
            obtain ⟨hcn, hcq⟩ := comm_quiet (c := c) (ops := #[{ g := k, fn := g₂.frame.fn, pos := g₂.frame.place, act := .send c s }, { g := 0, fn := g₂a.frame.fn, pos := g₂a.frame.place, act := .recv c s 0 }, { g := k, fn := g₂.frame.fn, pos := g₂.frame.place, act := .sendDone c s }, { g := 0, fn := g₂a.frame.fn, pos := g₂a.frame.place, act := .recvDone c s }]) (by
              intro op hop
              simp only [List.mem_toArray, List.mem_cons, List.not_mem_nil, or_false] at hop
              rcases hop with rfl | rfl | rfl | rfl
              · exact .inl ⟨_, rfl⟩
              · exact .inr (.inr (.inl ⟨_, _, rfl⟩))
              · exact .inr (.inl ⟨_, rfl⟩)
              · exact .inr (.inr (.inr ⟨_, rfl⟩)))
            obtain ⟨B₂, hB₂, p2⟩ := p1.quiet hcn hcq
            rw [Array.append_assoc] at p2
            refine ⟨_, _, sl', _, q, B₂, hst.trans hrun, by simp, .inr (.inl ⟨v, vs', nr + 1, ns + 1, rfl, ⟨hk, ⟨_, by rw [Array.getElem?_setIfInBounds_ne (by omega), Array.getElem?_setIfInBounds_self_of_lt hlt0], .inl ⟨nr, rfl, hnr⟩⟩, ⟨_, Array.getElem?_setIfInBounds_self_of_lt (by simpa using hltk), .inl ⟨ns, rfl, hns⟩⟩, .inl (by omega), fun j y hjp hjk hy => ?_, fun j hj => ?_, ⟨s + 1, heap_setChan ⟨_, hchan1⟩⟩, aside_setChan hkeep1 _ _ _ _, p2⟩⟩)⟩
            · rw [Array.getElem?_setIfInBounds_ne (by omega), hne0 _ j hjp] at hy
              rw [← Array.append_assoc, Deaf_quiet (hcq j), Deaf_other T (g' := k) (fun e => hjk e.symm) _ ho]
              exact hold j y hjp hjk hy
            · rw [← Array.append_assoc, Deaf_quiet (hcq j), Deaf_other T (g' := k) (by simp at hj; omega) _ ho]
              exact habove j (by simpa using hj)
      · have hrun := runT_crowd_go (P := P) (sl := sl') (i := k) hb0 (show stepG P (k == 0) x (w.at d) = _ by rw [hkn]; exact hstep)
        obtain ⟨B₁, hB₁, p1⟩ := hpast.readK (.inr rfl) (fn := x.frame.fn) (pos := x.frame.place) hes
        obtain ⟨ho, _, hdf⟩ := evP_ops (i := k) (fn := x.frame.fn) (pos := x.frame.place) hes
        have hfix := map_fixed (P := P) (gs := gs) (i := k) (g := x) (g' := g') (w := (w.at d).at d') fun x y _ hy => hagain x y hy
        have hsz : ((gs.map (woken P x g' ((w.at d).at d'))).setIfInBounds k g').size = gs.size := by simp
        refine ⟨_, _, sl', _, q, B₁, hst.trans hrun, hsz, .inl ⟨nA, k'' + 1, ⟨hk, ⟨a, by rw [hfix 0 (by omega)]; exact h0, hR⟩, ⟨g', by rw [Array.getElem?_setIfInBounds_self_of_lt (by simpa using hltk)], .inl ⟨k'', rfl, hgo'⟩⟩, .inr (by omega), fun j y hjp hjk hy => ?_, fun j hj => ?_, ⟨s, hchan1⟩, aside_at hkeep1 d', p1⟩, by omega⟩⟩
        · rw [hfix j hjk] at hy
          rw [Deaf_other T (g' := k) (fun e => hjk e.symm) _ ho]
          exact hold j y hjp hjk hy
        · rw [Deaf_other T (g' := k) (by rw [hsz] at hj; omega) _ ho]
          exact habove j (by rw [hsz] at hj; exact hj)
    · obtain ⟨g', ops, k', hqi, hrun, k1, k2, k3, k4⟩ := slip (P := P) (w := w.at d) (sl := sl') hi hpos hx (hold i x hpos hik hi)
      have hlt : i < gs.size := (Array.getElem?_eq_some_iff.1 hi).1
      have hfix := map_fixed (P := P) (gs := gs) (i := i) (g := x) (g' := g') (w := w.at d) fun x y _ hy => hagain x y hy
      have hsz : ((gs.map (woken P x g' (w.at d))).setIfInBounds i g').size = gs.size := by simp
      have hsum : sumTo gs.size (upd q i k') + (k' + 1) = sumTo gs.size q + k' := by
        have := sumTo_upd q k' id hlt
        simpa [hqi] using this
      refine ⟨_, _, sl', ops, upd q i k', B, hst.trans hrun, hsz, .inl ⟨nA, nB, ⟨hk, ⟨a, by rw [hfix 0 (by omega)]; exact h0, hR⟩, ⟨b, by rw [hfix k (fun e => hik e.symm)]; exact hb0, hS⟩, hboth, fun j y hjp hjk hy => ?_, fun j hj => ?_, ⟨s, hchan1⟩, hkeep1, hpast.mute (i := i) (by omega) k1 k2 (k3 B)⟩, by omega⟩⟩
      · by_cases hji : j = i
        · subst hji
          rw [Array.getElem?_setIfInBounds_self_of_lt (by simpa using hlt)] at hy
          obtain rfl := Option.some.inj hy
          rw [upd_same]; exact k4
        · rw [hfix j hji] at hy
          rw [upd_ne q k' hji, Deaf_other T (g' := i) (fun e => hji e.symm) ops k1]
          exact hold j y hjp hjk hy
      · rw [Deaf_other T (g' := i) (by simp at hj; omega) ops k1]
        exact habove j (by simpa using hj)

end

open Go Go.Conc
open Go.ConcN (sumTo upd sumTo_upd upd_ne upd_same)
variable {P : Program} {c : Nat} {W : World} {z : Value} {Fin : Goroutine → Prop}

theorem phA_run {k : Nat} : ∀ (vs : List Value) (M nA nB : Nat) (gs : Array Goroutine) (w : World) (sl : Option (Nat × Nat)) (T : Trace) (q : Nat → Nat) (B : Nat), nA + nB + sumTo gs.size q = M →
    PhA P c W z Fin k vs nA nB gs w T q B → Done P c W Fin gs.size (crowd gs w sl) T := by
  intro vs
  induction vs with
  | nil =>
    intro M
    induction M using Nat.strongRecOn with
    | ind M ih =>
      intro nA nB gs w sl T q B hM h
      obtain ⟨gs', w', sl', ops, q', B', hst, hsz, h'⟩ := phA_step (sl := sl) h
      refine Done.step hst ?_
      rw [← hsz]
      rcases h' with ⟨nA', nB', hA, hlt⟩ | ⟨v, vs', _, _, e, _⟩ | ⟨_, nA', hC⟩
      · rw [← hsz] at hlt hM
        exact ih (nA' + nB' + sumTo gs'.size q') (by omega) nA' nB' gs' w' sl' _ q' B' rfl hA
      · cases e
      · exact phC_run _ nA' gs' w' sl' _ q' B' rfl hC
  | cons v vs ihv =>
    intro M
    induction M using Nat.strongRecOn with
    | ind M ih =>
      intro nA nB gs w sl T q B hM h
      obtain ⟨gs', w', sl', ops, q', B', hst, hsz, h'⟩ := phA_step (sl := sl) h
      refine Done.step hst ?_
      rw [← hsz]
      rcases h' with ⟨nA', nB', hA, hlt⟩ | ⟨v', vs', nA', nB', e, hA⟩ | ⟨e, _⟩
      · rw [← hsz] at hlt hM
        exact ih (nA' + nB' + sumTo gs'.size q') (by omega) nA' nB' gs' w' sl' _ q' B' rfl hA
      · obtain ⟨rfl, rfl⟩ := List.cons.inj e
        exact ihv _ nA' nB' gs' w' sl' _ q' B' rfl hA
      · cases e

/-- ████ FROM THE go STATEMENT, BESIDE OTHERS THAT ONLY LEAVE. ████ -/
theorem pipe {vs : List Value} : ∀ (M : Nat) (gs : Array Goroutine) (w : World) (sl : Option (Nat × Nat)) (T : Trace) (q : Nat → Nat) (B : Nat) (a a' child : Goroutine) (es : Array Event) (s : Nat), sumTo gs.size q = M →
    gs[0]? = some a → a.status = .running → Leavers P T gs q → Past (fun _ => False) B T → Aside c W w → w.heap[c]? = some (.chan 0 #[] false s s false) →
    (∀ w, Aside c W w → stepG P true a w = .spawn a' child w es) → (∀ e ∈ es, EvP e) → Rcv P c W z Fin vs a' → Snd P c W vs child → Done P c W Fin (gs.size + 1) (crowd gs w sl) T := by
  intro M
  induction M using Nat.strongRecOn with
  | ind M ih =>
    intro gs w sl T q B a a' child es s hM h0 ha hL hP hkeep hchan hgo hes hR hS
    have hlt0 : 0 < gs.size := (Array.getElem?_eq_some_iff.1 h0).1
    have haw : ∀ x ∈ gs, awake x := by
      intro x hx
      obtain ⟨i, hi, rfl⟩ := Array.mem_iff_getElem.1 hx
      rcases Nat.eq_zero_or_pos i with rfl | hpos
      · have : gs[0] = a := by simpa [Array.getElem?_eq_getElem hi] using h0
        rw [this]; exact awake_of (.inl ha)
      · exact awake_of ((hL.old i _ hpos (Array.getElem?_eq_getElem hi)).status.elim .inl fun x => .inr (.inr x))
    obtain ⟨i, x, d, sl', hi, hx, hst⟩ := crowd_pick (P := P) (w := w) (sl := sl) haw ⟨0, a, h0, ha⟩
    have hkeep1 : Aside c W (w.at d) := aside_at hkeep d
    rcases Nat.eq_zero_or_pos i with rfl | hpos
    · obtain rfl : x = a := by rw [h0] at hi; exact (Option.some.inj hi).symm
      have hrun := runT_crowd_spawn (P := P) (sl := sl') (i := 0) h0 (show stepG P (0 == 0) x (w.at d) = _ from hgo _ hkeep1)
      obtain ⟨ho, hr, hdf⟩ := evP_ops (i := 0) (fn := x.frame.fn) (pos := x.frame.place) hes
      obtain ⟨B₁, hB₁, p1⟩ := Past.own0 hP ho (hdf T)
      have hpush : ((MemOp.ofEvents 0 x.frame.fn x.frame.place es).push { g := 0, fn := x.frame.fn, pos := x.frame.place, act := .go gs.size } |>.push { g := gs.size, fn := child.frame.fn, pos := x.frame.place, act := .start }) =
          MemOp.ofEvents 0 x.frame.fn x.frame.place es ++ #[{ g := 0, fn := x.frame.fn, pos := x.frame.place, act := .go gs.size }, { g := gs.size, fn := child.frame.fn, pos := x.frame.place, act := .start }] := by
        apply Array.ext'; simp
      rw [hpush] at hrun
      have p2 := PastH.ofPast (Still := fun l => l.isMemory = true) p1 fun l h => h
      have hdk : Deaf (T ++ MemOp.ofEvents 0 x.frame.fn x.frame.place es) gs.size = 0 := by
        rw [Deaf_other T (g' := 0) (by omega) _ ho]; exact hL.above _ (Nat.le_refl _)
      have p3 := PastH.hire p2 rfl hdk x.frame.fn x.frame.place child.frame.fn
      have p4 : PastP (fun g => g = 0 ∨ g = gs.size) gs.size B₁ (T ++ (MemOp.ofEvents 0 x.frame.fn x.frame.place es ++ #[{ g := 0, fn := x.frame.fn, pos := x.frame.place, act := .go gs.size }, { g := gs.size, fn := child.frame.fn, pos := x.frame.place, act := .start }])) := by
        rw [← Array.append_assoc]
        exact PastG.loosen p3 fun g hg => hg.elim (fun x => x.elim) id
      have hq : ∀ g, ∀ op ∈ (#[{ g := 0, fn := x.frame.fn, pos := x.frame.place, act := .go gs.size }, { g := gs.size, fn := child.frame.fn, pos := x.frame.place, act := .start }] : Trace), ∀ d, deafStep g d op = d := by
        intro g op hop d
        simp only [List.mem_toArray, List.mem_cons, List.not_mem_nil, or_false] at hop
        rcases hop with rfl | rfl <;> rfl
      have hdeaf : ∀ j, j ≠ 0 → Deaf (T ++ (MemOp.ofEvents 0 x.frame.fn x.frame.place es ++ #[{ g := 0, fn := x.frame.fn, pos := x.frame.place, act := .go gs.size }, { g := gs.size, fn := child.frame.fn, pos := x.frame.place, act := .start }])) j = Deaf T j := fun j hj => by
        rw [← Array.append_assoc, Deaf_quiet (hq j), Deaf_other T (g' := 0) (fun e => hj e.symm) _ ho]
      obtain ⟨nr, hnr⟩ := (rcv_iff P c W z Fin vs _).1 hR
      obtain ⟨ns, hns⟩ := (snd_iff P c W vs _).1 hS
      refine Done.step (hst.trans hrun) ?_
      have hsz : ((gs.setIfInBounds 0 a').push child).size = gs.size + 1 := by simp
      have := phA_run (P := P) (k := gs.size) (z := z) (Fin := Fin) (sl := sl') vs _ (nr + 1) (ns + 1) ((gs.setIfInBounds 0 a').push child) (w.at d) _ q B₁ rfl ⟨by omega, ⟨a', by
          rw [Array.getElem?_push, if_neg (by simp; omega), Array.getElem?_setIfInBounds_self_of_lt hlt0], .inl ⟨nr, rfl, hnr⟩⟩, ⟨child, by rw [Array.getElem?_push, if_pos (by simp)], .inl ⟨ns, rfl, hns⟩⟩, .inl (by omega), fun j y hjp hjk hy => by
          rw [Array.getElem?_push, if_neg (by simpa using hjk), Array.getElem?_setIfInBounds_ne (by omega)] at hy
          rw [hdeaf j (by omega)]
          exact hL.old j y hjp hy, fun j hj => by
          rw [hdeaf j (by omega)]
          exact hL.above j (by omega), ⟨s, hchan⟩, hkeep1, p4⟩
      rw [hsz] at this
      exact this
    · obtain ⟨g', ops, k', hqi, hrun, k1, k2, k3, k4⟩ := slip (P := P) (w := w.at d) (sl := sl') hi hpos hx (hL.old i x hpos hi)
      have hlt : i < gs.size := (Array.getElem?_eq_some_iff.1 hi).1
      have hagain : ∀ (x : Nat) (y : Goroutine), gs[x]? = some y → y.again (w.at d) = y := by
        intro x y hy
        rcases Nat.eq_zero_or_pos x with rfl | hpos
        · rw [h0] at hy; obtain rfl := Option.some.inj hy; exact again_of_running (.inl ha) _
        · exact again_of_running (hL.old x y hpos hy).status _
      have hfix := map_fixed (P := P) (gs := gs) (i := i) (g := x) (g' := g') (w := w.at d) fun x y _ hy => hagain x y hy
      have hsz : ((gs.map (woken P x g' (w.at d))).setIfInBounds i g').size = gs.size := by simp
      have hsum : sumTo gs.size (upd q i k') + (k' + 1) = sumTo gs.size q + k' := by
        have := sumTo_upd q k' id hlt
        simpa [hqi] using this
      refine Done.step (hst.trans hrun) ?_
      have := ih (sumTo gs.size (upd q i k')) (by omega) ((gs.map (woken P x g' (w.at d))).setIfInBounds i g') (w.at d) sl' (T ++ ops) (upd q i k') B a a' child es s (by rw [hsz]) (by rw [hfix 0 (by omega)]; exact h0) ha ⟨fun j y hjp hy => by
          by_cases hji : j = i
          · subst hji
            rw [Array.getElem?_setIfInBounds_self_of_lt (by simpa using hlt)] at hy
            obtain rfl := Option.some.inj hy
            rw [upd_same]; exact k4
          · rw [hfix j hji] at hy
            rw [upd_ne q k' hji, Deaf_other T (g' := i) (fun e => hji e.symm) ops k1]
            exact hL.old j y hjp hy, fun j hj => by
          rw [Deaf_other T (g' := i) (by simp at hj; omega) ops k1]
          exact hL.above j (by simpa using hj)⟩ (hP.appMute (by omega) k1 k2 (k3 B)) hkeep1 hchan hgo hes hR hS
      rw [hsz] at this
      exact this

end Go.Proofs.YtpenbkfchgeafaaGreatDoor

namespace Go.Proofs.YtpenbkfchgeafaaGreatDoor
open Go Go.Conc
variable {P : Program}

/-- BESIDE OTHERS THAT ONLY LEAVE goroutine 0 comes from g to what Q says. -/
def Reach (P : Program) (g : Goroutine) (w : World) (Q : Goroutine → World → Prop) : Prop :=
  ∀ d gs sl T q B, gs[0]? = some g → Leavers P T gs q → Past (fun _ => False) B T →
    ∃ N gs' g' w' sl' T' q' B', runNT P N (crowd gs (w.at d) sl) T = (.next (crowd gs' w' sl'), T') ∧ gs'[0]? = some g' ∧ Q g' w' ∧ Leavers P T' gs' q' ∧ Past (fun _ => False) B' T' ∧ w'.tape = w.tape
variable {g g' : Goroutine} {w : World} {Q R : Goroutine → World → Prop}

theorem Reach.mono (h : Reach P g w Q) (hQ : ∀ g' w', Q g' w' → R g' w') : Reach P g w R := fun d gs sl T q B h0 hL hP => by
  obtain ⟨N, gs', g', w', sl', T', q', B', e, k0, k1, k2⟩ := h d gs sl T q B h0 hL hP
  exact ⟨N, gs', g', w', sl', T', q', B', e, k0, hQ _ _ k1, k2⟩
theorem Reach.trans (h : Reach P g w Q) (hQ : ∀ g' w', Q g' w' → Reach P g' w' R) : Reach P g w R := fun d gs sl T q B h0 hL hP => by
  obtain ⟨N, gs', g', w', sl', T', q', B', e, k0, k1, k2, k3, k4⟩ := h d gs sl T q B h0 hL hP
  obtain ⟨M, gs'', g'', w'', sl'', T'', q'', B'', e', l0, l1, l2, l3, l4⟩ := hQ g' w' k1 w'.drawn gs' sl' T' q' B' k0 k2 k3
  exact ⟨N + M, gs'', g'', w'', sl'', T'', q'', B'', by rw [runNT_add, e]; exact e', l0, l1, l2, l3, l4.trans k4⟩
theorem Reach.here (h : ∀ d, Q g (w.at d)) : Reach P g w Q := fun d gs sl T q B h0 hL hP => ⟨0, gs, g, w.at d, sl, T, q, B, rfl, h0, h d, hL, hP, rfl⟩

/-- What it does alone on every tape. -/
theorem Reach.lonely (hP : PlainP P) (hB : Blind Q) (hg : PlainG g) (hr : g.status = .running) (hS : SoloTo P Q g w) : Reach P g w fun g' w' => g'.status = .running ∧ PlainG g' ∧ Q g' w' := fun d gs sl T q B h0 hL hp => by
  obtain ⟨N, gs', g', w', sl', T', q', B', e, _, k0, k1, k2, k3, k4, k5, k6⟩ := walk_tree (tree_of_solo hP hB hg hr hS) gs (w.at d) sl T q B ⟨d, rfl⟩ h0 hL hp
  exact ⟨N, gs', g', w', sl', T', q', B', e, k0, ⟨k1, k2, k3⟩, k4, k5, k6⟩
/-- The world is w but for tape and draws. -/
def Same (w w' : World) : Prop := ∃ τ d, w' = On w τ d
theorem Same.refl (w : World) : Same w w := ⟨w.tape, w.drawn, rfl⟩
/-- Steps of its own that turn nothing. -/
theorem Reach.still (hP : PlainP P) (hg : PlainG g) (hr : g.status = .running) (hr' : g'.status = .running) (h : ∀ τ d, Steps P (solo g (On w τ d)) (solo g' (On w τ d))) (hQ : PlainG g' → Reach P g' w Q) : Reach P g w Q := fun d gs sl T q B h0 hL hp => by
  have hS : SoloTo P (fun x w' => x = g' ∧ Same w w') g w := fun τ => by
    obtain ⟨n, e⟩ := h τ 0
    exact ⟨n, g', On w τ 0, e, hr', rfl, τ, 0, rfl⟩
  obtain ⟨N, gs', x, w', sl', T', q', B', e, k0, ⟨_, kp, rfl, τ, dd, rfl⟩, k2, k3, k4⟩ := Reach.lonely hP (fun x w' τ d h => by obtain ⟨h1, τ', d', rfl⟩ := h; exact ⟨h1, τ, d, rfl⟩) hg hr hS d gs sl T q B h0 hL hp
  have hw : On w τ dd = w.at dd := by
    have : τ = w.tape := k4
    rw [this]; rfl
  rw [hw] at e
  obtain ⟨M, gs'', g'', w'', sl'', T'', q'', B'', e', l0, l1, l2, l3, l4⟩ := hQ kp dd gs' sl' T' q' B' k0 k2 k3
  exact ⟨N + M, gs'', g'', w'', sl'', T'', q'', B'', by rw [runNT_add, e]; exact e', l0, l1, l2, l3, l4⟩
theorem Reach.step1 (hP : PlainP P) (hg : PlainG g) (hr : g.status = .running) (hr' : g'.status = .running) (h : ∀ w, stepG P true g w = .go g' w) (hQ : PlainG g' → Reach P g' w Q) : Reach P g w Q :=
  Reach.still hP hg hr hr' (fun τ d => ⟨1, by rw [runN, step, stepT_solo hr, runT_solo_go (h _)]; rfl⟩) hQ

/-- From the go statement to the last word heard. -/
theorem Reach.pipe {c : Nat} {z : Value} {Fin : Goroutine → Prop} {vs : List Value} {a a' child : Goroutine} {es : Array Event} {s : Nat} (ha : a.status = .running) (hchan : w.heap[c]? = some (.chan 0 #[] false s s false))
    (hgo : ∀ w', Aside c w w' → stepG P true a w' = .spawn a' child w' es) (hes : ∀ e ∈ es, EvP e) (hR : Rcv P c w z Fin vs a') (hS : Snd P c w vs child) :
    Reach P a w fun g' w' => g'.status = .running ∧ Fin g' ∧ Aside c w w' := fun d gs sl T q B h0 hL hP => by
  obtain ⟨N, gs', g', w', sl', T', q', B', e, _, k0, k1, k2, k3, k4, k5⟩ := Go.Proofs.YtpenbkfchgeafaaGreatDoor.pipe (P := P) (c := c) (W := w) (z := z) (Fin := Fin) (vs := vs) (sl := sl) _ gs (w.at d) T q B a a' child es s rfl h0 ha hL hP (Aside.at c w d) hchan hgo hes hR hS
  exact ⟨N, gs', g', w', sl', T', q', B', e, k0, ⟨k1, k2, k3⟩, k4, k5, k3.tape⟩

/-! ### calls -/
theorem leaving_on {fr : Frame} {v : Value} (h : fr.leaving P w (.returned v)) (τ : Tp) (d : Nat) : fr.leaving P (On w τ d) (.returned v) := by
  obtain ⟨h1, h2, h3, fn, h4, h5⟩ := h
  refine ⟨h1, h2, h3, fn, h4, ?_⟩
  obtain ⟨_, m, _, hd, hl⟩ := run_loc (inferInstance : Gd P (results fn fr.tmps)).good h5
  obtain rfl : m = 0 := by omega
  exact hl τ d fun j hj => by omega
/-- A call that starts goroutines, whoever leaves beside it. -/
def CallsB (P : Program) (f : FuncId) (args : Array Value) (w : World) (R : Value → World → Prop) : Prop :=
  ∀ cs, PlainC cs → Reach P (G (Frame.enter P f args .normal) cs) w fun g' w' => ∃ fr v, g' = G fr cs ∧ fr.fn = f ∧ fr.leaving P w' (.returned v) ∧ PlainT fr.todo ∧ R v w'
theorem solo_lone (fr : Frame) (cs : List Frame) (w : World) : solo (G fr cs) w = lone fr cs w := rfl
/-- What a contract alone says, it says beside others. -/
theorem CallsB.ofCalls (hP : PlainP P) {f : FuncId} {args : Array Value} {Rv : Value → World → Prop} (hB : ∀ v w τ d, Rv v w → Rv v (On w τ d)) (h : ∀ τ, Calls P f args (On w τ 0) fun e w' => ∃ v, e = .returned v ∧ Rv v w') : CallsB P f args w Rv := by
  intro cs hcs
  have hS : SoloTo P (fun g' w' => ∃ fr v, g' = G fr cs ∧ fr.fn = f ∧ fr.leaving P w' (.returned v) ∧ Rv v w') (G (Frame.enter P f args .normal) cs) w := fun τ => by
    obtain ⟨e, w', fr, ⟨v, rfl, hR⟩, ⟨n, hn⟩, hf, hl⟩ := h τ cs
    exact ⟨n, G fr cs, w', hn, rfl, fr, v, rfl, hf, hl, hR⟩
  refine (Reach.lonely hP (fun g w τ d h => ?_) (show PlainG (G (Frame.enter P f args .normal) cs) from ⟨plain_enter _ _ _, hcs⟩) rfl hS).mono fun g' w' h => ?_
  · obtain ⟨fr, v, h1, h2, h3, h4⟩ := h
    exact ⟨fr, v, h1, h2, leaving_on h3 τ d, hB _ _ _ _ h4⟩
  · obtain ⟨_, hp, fr, v, rfl, h2, h3, h4⟩ := h
    exact ⟨fr, v, rfl, h2, h3, hp.1, h4⟩

section
variable {b : Frame} {a : Act} {k : List Item} {cs : List Frame} {ops : Array Oper} {i : Nat} {rest : List Nat} {o : Oper}
theorem plain_at {l : List Item} (h : PlainT l) (hcs : PlainC cs) : PlainG (G (b.at a l) cs) := ⟨h, hcs⟩
theorem plain_region {l : List Nat} (hk : PlainT k) : PlainT (.inRegion ops l :: k) := PlainT.cons (show PlainI (.inRegion ops l) from trivial) hk
theorem plain_code {x : Code} (hk : PlainT k) : PlainT (.code x :: k) := PlainT.cons (show PlainI (.code x) from trivial) hk
/-- An operation that calls. -/
theorem Reach.call (hP : PlainP P) {f : FuncId} {args : Array Value} {Rv : Value → World → Prop} (hk : PlainT k) (hcs : PlainC cs) (ho : ops[i]? = some o) (hw : Region.wanted o (yielded ops a.tmps) = true) (_ : b.kind ≠ .early)
    (hr : ∀ w, (execOp a.eval o).run P w = .ok (.enter f args) w) (hc : CallsB P f args w Rv) (hQ : ∀ v w', Rv v w' → Reach P (G (b.at (a.put o.dst v) (.inRegion ops rest :: k)) cs) w' Q) :
    Reach P (G (b.at a (.inRegion ops (i :: rest) :: k)) cs) w Q := by
  have hfr : PlainT (b.at a (.inRegion ops (i :: rest) :: k)).todo := plain_region hk
  have hcs' : PlainC (b.at a (.inRegion ops (i :: rest) :: k) :: cs) := PlainC.cons hfr hcs
  have hentry : ∀ w, step P (lone (b.at a (.inRegion ops (i :: rest) :: k)) cs w) = .next (lone (Frame.enter P f args .normal) (b.at a (.inRegion ops (i :: rest) :: k) :: cs) w) := fun w => by
    have hg := stepG_op (P := P) (b := b) (k := k) (cs := cs) (w := w) (rest := rest) ho hw
    exact step_lone_go (by rw [hg]; simp [stepG.apply, hr, Frame.at])
  refine Reach.still hP (plain_at (plain_region hk) hcs) rfl (g' := G (Frame.enter P f args .normal) (b.at a (.inRegion ops (i :: rest) :: k) :: cs)) rfl (fun τ d => Steps.one (hentry _)) fun _ => ?_
  refine (hc _ hcs').trans fun g' w' h => ?_
  obtain ⟨fr, v, rfl, hf, hl, hp, hv⟩ := h
  refine Reach.still hP ⟨hp, hcs'⟩ rfl (g' := G ((b.at a (.inRegion ops (i :: rest) :: k)).finish v) cs) rfl (fun τ d => Steps.one (step_leave_returned (leaving_on hl τ d))) fun _ => ?_
  have hfin : (b.at a (.inRegion ops (i :: rest) :: k)).finish v = b.at (a.put o.dst v) (.inRegion ops rest :: k) := by rw [Frame.finish_at, ho]; rfl
  rw [hfin]
  exact hQ v w' hv
/-- An operation that yields a value and turns nothing. -/
theorem Reach.val (hP : PlainP P) (v : Value) (hk : PlainT k) (hcs : PlainC cs) (ho : ops[i]? = some o) (hw : Region.wanted o (yielded ops a.tmps) = true) (hb : b.kind ≠ .early)
    (hr : ∀ τ d, (execOp a.eval o).run P (On w τ d) = .ok (.value v) (On w τ d)) (hQ : Reach P (G (b.at (a.put o.dst v) (.inRegion ops rest :: k)) cs) w Q) : Reach P (G (b.at a (.inRegion ops (i :: rest) :: k)) cs) w Q :=
  Reach.still hP (plain_at (plain_region hk) hcs) rfl (g' := G (b.at (a.put o.dst v) (.inRegion ops rest :: k)) cs) rfl
    (fun τ d => ⟨1, by rw [runN, step, stepT_solo rfl, runT_solo_go (stepG_value (main := true) ho hw hb (hr τ d))]; rfl⟩) fun _ => hQ
/-- A piece of code that starts nobody. -/
theorem Reach.code (hP : PlainP P) {x : Code} {Qx : Act → World → Prop} (hk : PlainT k) (hcs : PlainC cs) (hB : ∀ a w τ d, Qx a w → Qx a (On w τ d)) (h : ∀ τ, x.wp P (fun e a' w' => e = .normal ∧ Qx a' w') a (On w τ 0))
    (hQ : ∀ a' w', Qx a' w' → Reach P (G (b.at a' k) cs) w' Q) : Reach P (G (b.at a (.code x :: k)) cs) w Q := by
  have hS : SoloTo P (fun g' w' => ∃ a', g' = G (b.at a' k) cs ∧ Qx a' w') (G (b.at a (.code x :: k)) cs) w := fun τ => by
    obtain ⟨e, a', w', ⟨rfl, hq⟩, n, hn⟩ := h τ b k cs
    exact ⟨n, G (b.at a' k) cs, w', hn, rfl, a', rfl, hq⟩
  refine (Reach.lonely hP (fun g w τ d h => ?_) (plain_at (plain_code hk) hcs) rfl hS).trans fun g' w' h => ?_
  · obtain ⟨a', h1, h2⟩ := h
    exact ⟨a', h1, hB _ _ _ _ h2⟩
  · obtain ⟨_, _, a', rfl, h2⟩ := h
    exact hQ a' w' h2
theorem Reach.seq (hP : PlainP P) {x y : Code} (hk : PlainT k) (hcs : PlainC cs) (h : Reach P (G (b.at a (.code x :: .code y :: k)) cs) w Q) : Reach P (G (b.at a (.code (.seq x y) :: k)) cs) w Q :=
  Reach.step1 hP (plain_at (plain_code hk) hcs) rfl rfl (fun _ => stepG_seq) fun _ => h
theorem Reach.region (hP : PlainP P) {id : Nat} (hk : PlainT k) (hcs : PlainC cs) (h : Reach P (G (b.at a (.inRegion ops (List.range ops.size) :: k)) cs) w Q) : Reach P (G (b.at a (.code (.region id ops false) :: k)) cs) w Q :=
  Reach.step1 hP (plain_at (plain_code hk) hcs) rfl rfl (fun _ => stepG_region) fun _ => h
theorem Reach.regionEnd (hP : PlainP P) (hk : PlainT k) (hcs : PlainC cs) (h : Reach P (G (b.at a k) cs) w Q) : Reach P (G (b.at a (.inRegion ops [] :: k)) cs) w Q :=
  Reach.step1 hP (plain_at (plain_region hk) hcs) rfl rfl (fun _ => stepG_region_end) fun _ => h
end
end Go.Proofs.YtpenbkfchgeafaaGreatDoor

namespace Go.Proofs.YtpenbkfchgeafaaGreatDoor
open Go Go.Conc
variable {P : Program}

instance gr_ofHandle (h : Value) : Gd P (Go.Extern.Rtype.ofHandle h) := by
  unfold Go.Extern.Rtype.ofHandle
  refine Gd.bind inferInstance fun p => ?_
  split <;> infer_instance
instance gr_handle (t : TypeId) : Gd P (Go.Extern.Rtype.handle t) := by
  unfold Go.Extern.Rtype.handle
  exact Gd.bind inferInstance fun _ => inferInstance
theorem gr_one {α : Type} {f : Array Value → Sem α} (h1 : ∀ v, Gd P (f ⟨[v]⟩)) (h0 : Gd P (f ⟨[]⟩)) (h2 : ∀ a b l, Gd P (f ⟨a :: b :: l⟩)) : ∀ x, Gd P (f x)
  | ⟨[]⟩ => h0
  | ⟨[v]⟩ => h1 v
  | ⟨a :: b :: l⟩ => h2 a b l
theorem gr_two {α : Type} {f : Array Value → Sem α} (h2 : ∀ a b, Gd P (f ⟨[a, b]⟩)) (h0 : Gd P (f ⟨[]⟩)) (h1 : ∀ a, Gd P (f ⟨[a]⟩)) (h3 : ∀ a b c l, Gd P (f ⟨a :: b :: c :: l⟩)) : ∀ x, Gd P (f x)
  | ⟨[]⟩ => h0
  | ⟨[v]⟩ => h1 v
  | ⟨[a, b]⟩ => h2 a b
  | ⟨a :: b :: c :: l⟩ => h3 a b c l
set_option maxHeartbeats 1000000 in
instance gr_noPack (s : String) (t : TypeId) : Gd P (Go.Extern.Rtype.noPack s t) := by
  unfold Go.Extern.Rtype.noPack
  repeat' first
    | infer_instance
    | refine Gd.bind ?_ fun _ => ?_
    | refine Gd.map _ ?_
    | refine Gd.ite ?_ ?_
    | intro _
    | split
    | dsimp only [Function.comp]
set_option maxHeartbeats 1000000 in
instance gr_noPackNamed (s : String) (t : TypeId) : Gd P (Go.Extern.Rtype.noPackNamed s t) := by
  unfold Go.Extern.Rtype.noPackNamed
  repeat' first
    | infer_instance
    | refine Gd.bind ?_ fun _ => ?_
    | refine Gd.map _ ?_
    | refine Gd.ite ?_ ?_
    | intro _
    | split
    | dsimp only [Function.comp]
set_option maxHeartbeats 1000000 in
instance gr_noPackMethods (s : String) (t : TypeId) : Gd P (Go.Extern.Rtype.noPackMethods s t) := by
  unfold Go.Extern.Rtype.noPackMethods
  repeat' first
    | infer_instance
    | refine Gd.bind ?_ fun _ => ?_
    | refine Gd.map _ ?_
    | refine Gd.ite ?_ ?_
    | intro _
    | split
    | dsimp only [Function.comp]
set_option maxHeartbeats 1000000 in
instance gr_spelt (t : TypeId) : Gd P (Go.Extern.Rtype.spelt t) := by
  unfold Go.Extern.Rtype.spelt
  repeat' first
    | infer_instance
    | refine Gd.bind ?_ fun _ => ?_
    | refine Gd.map _ ?_
    | refine Gd.ite ?_ ?_
    | intro _
    | split
    | dsimp only [Function.comp]
set_option maxHeartbeats 1000000 in
instance gr_under (t : TypeId) : Gd P (Go.Extern.Rtype.under t) := by
  unfold Go.Extern.Rtype.under
  repeat' first
    | infer_instance
    | refine Gd.bind ?_ fun _ => ?_
    | refine Gd.map _ ?_
    | refine Gd.ite ?_ ?_
    | intro _
    | split
    | dsimp only [Function.comp]
set_option maxHeartbeats 1000000 in
instance gr_kind (t : TypeId) : Gd P (Go.Extern.Rtype.kind t) := by
  unfold Go.Extern.Rtype.kind
  repeat' first
    | infer_instance
    | refine Gd.bind ?_ fun _ => ?_
    | refine Gd.map _ ?_
    | refine Gd.ite ?_ ?_
    | intro _
    | split
    | dsimp only [Function.comp]
set_option maxHeartbeats 1000000 in
instance gr_hasName (t : TypeId) : Gd P (Go.Extern.Rtype.hasName t) := by
  unfold Go.Extern.Rtype.hasName
  repeat' first
    | infer_instance
    | refine Gd.bind ?_ fun _ => ?_
    | refine Gd.map _ ?_
    | refine Gd.ite ?_ ?_
    | intro _
    | split
    | dsimp only [Function.comp]
set_option maxHeartbeats 1000000 in
instance gr_elemQ (t : TypeId) : Gd P (Go.Extern.Rtype.elem? t) := by
  unfold Go.Extern.Rtype.elem?
  repeat' first
    | infer_instance
    | refine Gd.bind ?_ fun _ => ?_
    | refine Gd.map _ ?_
    | refine Gd.ite ?_ ?_
    | intro _
    | split
    | dsimp only [Function.comp]
set_option maxHeartbeats 1000000 in
instance gr_implements (t v : TypeId) : Gd P (Go.Extern.Rtype.implements t v) := by
  unfold Go.Extern.Rtype.implements
  repeat' first
    | infer_instance
    | refine Gd.bind ?_ fun _ => ?_
    | refine Gd.map _ ?_
    | refine Gd.ite ?_ ?_
    | intro _
    | split
    | dsimp only [Function.comp]
set_option maxHeartbeats 1000000 in
instance gr_directlyAssignable (t v : TypeId) : Gd P (Go.Extern.Rtype.directlyAssignable t v) := by
  unfold Go.Extern.Rtype.directlyAssignable
  repeat' first
    | infer_instance
    | refine Gd.bind ?_ fun _ => ?_
    | refine Gd.map _ ?_
    | refine Gd.ite ?_ ?_
    | intro _
    | split
    | dsimp only [Function.comp]
set_option maxHeartbeats 1000000 in
instance grT_toType (t : TypeId) : Gd P (Go.Extern.ReflectliteType.toType t) := by
  unfold Go.Extern.ReflectliteType.toType
  repeat' first
    | infer_instance
    | refine Gd.bind ?_ fun _ => ?_
    | refine Gd.map _ ?_
    | refine Gd.ite ?_ ?_
    | intro _
    | split
    | dsimp only [Function.comp]
instance grT_ofRtype (t : Value) : Gd P (Go.Extern.ReflectliteType.ofRtype t) := by
  cases t
  case agg cells =>
    obtain ⟨m⟩ := cells
    rcases m with _ | ⟨c0, _ | ⟨c1, m⟩⟩
    · show Gd P (stuck _); infer_instance
    · exact Gd.bind (inferInstance : Gd P (Go.Extern.Rtype.ofHandle c0)) fun t => Gd.bind (inferInstance : Gd P (Go.Extern.Rtype.noPack _ t)) fun _ => inferInstance
    · show Gd P (stuck _); infer_instance
  all_goals (show Gd P (stuck _); infer_instance)
set_option maxHeartbeats 1000000 in
instance grT_elem (t : TypeId) : Gd P (Go.Extern.ReflectliteType.elem t) := by
  unfold Go.Extern.ReflectliteType.elem
  repeat' first
    | infer_instance
    | refine Gd.bind ?_ fun _ => ?_
    | refine Gd.map _ ?_
    | refine Gd.ite ?_ ?_
    | intro _
    | split
    | dsimp only [Function.comp]
set_option maxHeartbeats 1000000 in
instance grT_name (t : TypeId) : Gd P (Go.Extern.ReflectliteType.name t) := by
  unfold Go.Extern.ReflectliteType.name
  repeat' first
    | infer_instance
    | refine Gd.bind ?_ fun _ => ?_
    | refine Gd.map _ ?_
    | refine Gd.ite ?_ ?_
    | intro _
    | split
    | dsimp only [Function.comp]
set_option maxHeartbeats 1000000 in
instance grT_pkgPath (t : TypeId) : Gd P (Go.Extern.ReflectliteType.pkgPath t) := by
  unfold Go.Extern.ReflectliteType.pkgPath
  repeat' first
    | infer_instance
    | refine Gd.bind ?_ fun _ => ?_
    | refine Gd.map _ ?_
    | refine Gd.ite ?_ ?_
    | intro _
    | split
    | dsimp only [Function.comp]
set_option maxHeartbeats 1000000 in
instance grT_implements_ (t v : TypeId) : Gd P (Go.Extern.ReflectliteType.implements_ t v) := by
  unfold Go.Extern.ReflectliteType.implements_
  repeat' first
    | infer_instance
    | refine Gd.bind ?_ fun _ => ?_
    | refine Gd.map _ ?_
    | refine Gd.ite ?_ ?_
    | intro _
    | split
    | dsimp only [Function.comp]
set_option maxHeartbeats 1000000 in
instance grT_assignableTo (t v : TypeId) : Gd P (Go.Extern.ReflectliteType.assignableTo t v) := by
  unfold Go.Extern.ReflectliteType.assignableTo
  repeat' first
    | infer_instance
    | refine Gd.bind ?_ fun _ => ?_
    | refine Gd.map _ ?_
    | refine Gd.ite ?_ ?_
    | intro _
    | split
    | dsimp only [Function.comp]
set_option maxHeartbeats 1000000 in
instance grV_mk (t : TypeId) (a : Addr) (n : Nat) : Gd P (Go.Extern.ReflectliteValue.mk t a n) := by
  unfold Go.Extern.ReflectliteValue.mk
  repeat' first
    | infer_instance
    | refine Gd.bind ?_ fun _ => ?_
    | refine Gd.map _ ?_
    | refine Gd.ite ?_ ?_
    | intro _
    | split
    | dsimp only [Function.comp]
set_option maxHeartbeats 1000000 in
instance grV_unpack (v : Value) : Gd P (Go.Extern.ReflectliteValue.unpack v) := by
  unfold Go.Extern.ReflectliteValue.unpack
  repeat' first
    | infer_instance
    | refine Gd.bind ?_ fun _ => ?_
    | refine Gd.map _ ?_
    | refine Gd.ite ?_ ?_
    | intro _
    | split
    | dsimp only [Function.comp]
set_option maxHeartbeats 1000000 in
instance grV_valueError {α : Type} (s : String) (k : Nat) : Gd P (Go.Extern.ReflectliteValue.valueError s k : Sem α) := by
  unfold Go.Extern.ReflectliteValue.valueError
  repeat' first
    | infer_instance
    | refine Gd.bind ?_ fun _ => ?_
    | refine Gd.map _ ?_
    | refine Gd.ite ?_ ?_
    | intro _
    | split
    | dsimp only [Function.comp]
instance grV_partsAny (v : Value) : Gd P (Go.Extern.ReflectliteValue.partsAny v) := by
  cases v
  case agg cells =>
    obtain ⟨m⟩ := cells
    rcases m with _ | ⟨c0, _ | ⟨c1, _ | ⟨c2, _ | ⟨c3, m⟩⟩⟩⟩
    case cons.cons.cons.nil =>
      cases c2
      case int k n =>
        cases k
        case u64 =>
          rcases n with (_ | n) | n
          · show Gd P (pure none); infer_instance
          all_goals
            cases c1
            case pointer a =>
              cases a with
              | none => show Gd P (stuck _); infer_instance
              | some a => exact Gd.bind (inferInstance : Gd P (Go.Extern.Rtype.ofHandle c0)) fun _ => inferInstance
            all_goals (show Gd P (stuck _); infer_instance)
        all_goals (show Gd P (stuck _); infer_instance)
      all_goals (show Gd P (stuck _); infer_instance)
    all_goals (show Gd P (stuck _); infer_instance)
  all_goals (show Gd P (stuck _); infer_instance)
set_option maxHeartbeats 1000000 in
instance grV_parts (v : Value) : Gd P (Go.Extern.ReflectliteValue.parts v) := by
  unfold Go.Extern.ReflectliteValue.parts
  repeat' first
    | infer_instance
    | refine Gd.bind ?_ fun _ => ?_
    | refine Gd.map _ ?_
    | refine Gd.ite ?_ ?_
    | intro _
    | split
    | dsimp only [Function.comp]
set_option maxHeartbeats 1000000 in
instance grV_isNil (t : TypeId) (a : Addr) (i k : Nat) : Gd P (Go.Extern.ReflectliteValue.isNil t a i k) := by
  unfold Go.Extern.ReflectliteValue.isNil
  repeat' first
    | infer_instance
    | refine Gd.bind ?_ fun _ => ?_
    | refine Gd.map _ ?_
    | refine Gd.ite ?_ ?_
    | intro _
    | split
    | dsimp only [Function.comp]
set_option maxHeartbeats 1000000 in
instance grV_elem (t : TypeId) (a : Addr) (i k : Nat) : Gd P (Go.Extern.ReflectliteValue.elem t a i k) := by
  unfold Go.Extern.ReflectliteValue.elem
  repeat' first
    | infer_instance
    | refine Gd.bind ?_ fun _ => ?_
    | refine Gd.map _ ?_
    | refine Gd.ite ?_ ?_
    | intro _
    | split
    | dsimp only [Function.comp]
theorem grT_method (f : TypeId → Sem Value) (hf : ∀ t, Gd P (f t)) : ∀ x, Gd P (Go.Extern.ReflectliteType.method f x) :=
  gr_one (fun v => Gd.bind (inferInstance : Gd P (Go.Extern.ReflectliteType.ofRtype v)) hf) (by show Gd P (stuck _); infer_instance) fun _ _ _ => by show Gd P (stuck _); infer_instance
theorem grT_abiMethod (f : TypeId → Sem Value) (hf : ∀ t, Gd P (f t)) : ∀ x, Gd P (Go.Extern.ReflectliteType.abiMethod f x) :=
  gr_one (fun v => Gd.bind (inferInstance : Gd P (Go.Extern.Rtype.ofHandle v)) fun t => Gd.bind (inferInstance : Gd P (Go.Extern.Rtype.noPack _ t)) fun _ => hf t) (by show Gd P (stuck _); infer_instance) fun _ _ _ => by show Gd P (stuck _); infer_instance
theorem grT_relation (w : String) (f : TypeId → TypeId → Sem Bool) (hf : ∀ t u, Gd P (f t u)) : ∀ x, Gd P (Go.Extern.ReflectliteType.relation w f x) :=
  gr_two (fun a b => by
    cases b
    case nilIface => show Gd P (panicString _); infer_instance
    case iface _ u => exact Gd.bind (inferInstance : Gd P (Go.Extern.ReflectliteType.ofRtype u)) fun x => Gd.bind (inferInstance : Gd P (Go.Extern.ReflectliteType.ofRtype a)) fun y => Gd.bind (hf x y) fun _ => inferInstance
    all_goals (show Gd P (stuck _); infer_instance)) (by show Gd P (stuck _); infer_instance) (fun _ => by show Gd P (stuck _); infer_instance) fun _ _ _ _ => by show Gd P (stuck _); infer_instance
instance grT_typeOf : ∀ x, Gd P (Go.Extern.ReflectliteType.typeOf x) :=
  gr_one (fun v => by
    cases v
    case nilIface => show Gd P (pure _); infer_instance
    case iface t _ => exact (inferInstance : Gd P (Go.Extern.ReflectliteType.toType t))
    all_goals (show Gd P (stuck _); infer_instance)) (by show Gd P (stuck _); infer_instance) fun _ _ _ => by show Gd P (stuck _); infer_instance
theorem grV_method (z : Sem Value) (hz : Gd P z) (f : TypeId → Addr → Nat → Nat → Sem Value) (hf : ∀ t a i k, Gd P (f t a i k)) : ∀ x, Gd P (Go.Extern.ReflectliteValue.method z f x) :=
  gr_one (fun v => Gd.bind (inferInstance : Gd P (Go.Extern.ReflectliteValue.parts v)) fun o => by
    cases o with
    | none => exact hz
    | some p => exact hf _ _ _ _) (by show Gd P (stuck _); infer_instance) fun _ _ _ => by show Gd P (stuck _); infer_instance
theorem grV_methodAny (z : Sem Value) (hz : Gd P z) (f : TypeId → Addr → Nat → Nat → Sem Value) (hf : ∀ t a i k, Gd P (f t a i k)) : ∀ x, Gd P (Go.Extern.ReflectliteValue.methodAny z f x) :=
  gr_one (fun v => Gd.bind (inferInstance : Gd P (Go.Extern.ReflectliteValue.partsAny v)) fun o => by
    cases o with
    | none => exact hz
    | some p => exact hf _ _ _ _) (by show Gd P (stuck _); infer_instance) fun _ _ _ => by show Gd P (stuck _); infer_instance
instance gr_loadBytes : ∀ (n : Nat) (a : Addr) (acc : ByteArray), Gd P (Go.Extern.Bytes.loadBytes a n acc)
  | 0, _, _ => by
    unfold Go.Extern.Bytes.loadBytes
    infer_instance
  | n + 1, a, acc => by
    unfold Go.Extern.Bytes.loadBytes
    refine Gd.bind inferInstance fun v => ?_
    split
    · exact gr_loadBytes n _ _
    · infer_instance
set_option maxHeartbeats 1000000 in
instance gr_bytesOf (v : Value) : Gd P (Go.Extern.Bytes.bytesOf v) := by
  unfold Go.Extern.Bytes.bytesOf
  repeat' first
    | infer_instance
    | refine Gd.bind ?_ fun _ => ?_
    | refine Gd.map _ ?_
    | refine Gd.ite ?_ ?_
    | intro _
    | split
    | dsimp only [Function.comp]
set_option maxHeartbeats 1000000 in
instance gr_asByte (v : Value) : Gd P (Go.Extern.Bytes.asByte v) := by
  unfold Go.Extern.Bytes.asByte
  repeat' first
    | infer_instance
    | refine Gd.bind ?_ fun _ => ?_
    | refine Gd.map _ ?_
    | refine Gd.ite ?_ ?_
    | intro _
    | split
    | dsimp only [Function.comp]
instance gr_maxLen : Gd P Go.Extern.BytealgIndex.maxLen := by
  unfold Go.Extern.BytealgIndex.maxLen
  repeat' first
    | infer_instance
    | refine Gd.bind ?_ fun _ => ?_
    | refine Gd.map _ ?_
    | refine Gd.ite ?_ ?_
    | intro _
    | split
    | dsimp only [Function.comp]
instance gr_count : ∀ x, Gd P (Go.Extern.BytealgCount.count x) :=
  gr_two (fun a b => Gd.bind (inferInstance : Gd P (Go.Extern.Bytes.bytesOf a)) fun _ => Gd.bind (inferInstance : Gd P (Go.Extern.Bytes.asByte b)) fun _ => inferInstance) (by show Gd P (stuck _); infer_instance) (fun _ => (by show Gd P (stuck _); infer_instance)) fun _ _ _ _ => (by show Gd P (stuck _); infer_instance)
instance gr_indexByte : ∀ x, Gd P (Go.Extern.BytealgIndexByte.indexByte x) :=
  gr_two (fun a b => Gd.bind (inferInstance : Gd P (Go.Extern.Bytes.bytesOf a)) fun _ => Gd.bind (inferInstance : Gd P (Go.Extern.Bytes.asByte b)) fun _ => by
    split <;> infer_instance) (by show Gd P (stuck _); infer_instance) (fun _ => (by show Gd P (stuck _); infer_instance)) fun _ _ _ _ => (by show Gd P (stuck _); infer_instance)
set_option maxHeartbeats 1000000 in
instance gr_index : ∀ x, Gd P (Go.Extern.BytealgIndex.index x) :=
  gr_two (fun a b => Gd.bind (inferInstance : Gd P (Go.Extern.Bytes.bytesOf a)) fun _ => Gd.bind (inferInstance : Gd P (Go.Extern.Bytes.bytesOf b)) fun _ => by
    repeat' first
      | infer_instance
      | refine Gd.bind ?_ fun _ => ?_
      | refine Gd.map _ ?_
      | refine Gd.ite ?_ ?_
      | intro _
      | split
      | dsimp only [Function.comp]) (by show Gd P (stuck _); infer_instance) (fun _ => (by show Gd P (stuck _); infer_instance)) fun _ _ _ _ => (by show Gd P (stuck _); infer_instance)
instance gr_same : ∀ x, Gd P (Go.Extern.AbiNoEscape.same x) :=
  gr_one (fun v => (inferInstance : Gd P (pure v))) (by show Gd P (stuck _); infer_instance) fun _ _ _ => (by show Gd P (stuck _); infer_instance)
set_option maxHeartbeats 1000000 in
instance grV_errorText : ∀ x, Gd P (Go.Extern.ReflectliteValue.errorText x) :=
  gr_one (fun v => by
    cases v
    case pointer a =>
      cases a with
      | none => exact (inferInstance : Gd P (runtimePanic .nilDeref : Sem Value))
      | some e => exact Gd.bind (inferInstance : Gd P (load e)) fun _ => Gd.bind inferInstance fun _ => Gd.bind (inferInstance : Gd P (load _)) fun _ => Gd.bind inferInstance fun _ => inferInstance
    all_goals (show Gd P (stuck _); infer_instance)) (by show Gd P (stuck _); infer_instance) fun _ _ _ => (by show Gd P (stuck _); infer_instance)
set_option maxHeartbeats 2000000 in
instance grV_set : ∀ x, Gd P (Go.Extern.ReflectliteValue.set x) :=
  gr_two (fun a b => Gd.bind (inferInstance : Gd P (Go.Extern.ReflectliteValue.parts a)) fun _ => Gd.bind (inferInstance : Gd P (Go.Extern.ReflectliteValue.parts b)) fun _ => by
    repeat' first
      | infer_instance
      | refine Gd.bind ?_ fun _ => ?_
      | refine Gd.map _ ?_
      | refine Gd.ite ?_ ?_
      | intro _
      | split
      | dsimp only [Function.comp]) (by show Gd P (stuck _); infer_instance) (fun _ => (by show Gd P (stuck _); infer_instance)) fun _ _ _ _ => (by show Gd P (stuck _); infer_instance)
set_option maxHeartbeats 2000000 in
instance gr_makeNoZero (ps rs : Array TypeId) : ∀ x, Gd P (Go.Extern.BytealgMakeNoZero.makeNoZero ps rs x) :=
  gr_one (fun v => by
    cases v
    case int k n =>
      cases k
      case i64 =>
        obtain ⟨l⟩ := rs
        cases l with
        | nil => show Gd P (stuck _); infer_instance
        | cons t r =>
          refine Gd.bind (inferInstance : Gd P (underlying t)) fun d => ?_
          repeat' first
            | infer_instance
            | refine Gd.bind ?_ fun _ => ?_
            | refine Gd.map _ ?_
            | refine Gd.ite ?_ ?_
            | intro _
            | split
            | dsimp only [Function.comp]
      all_goals (show Gd P (stuck _); infer_instance)
    all_goals (show Gd P (stuck _); infer_instance)) (by show Gd P (stuck _); infer_instance) fun _ _ _ => (by show Gd P (stuck _); infer_instance)
instance gr_noPackHeld (s : String) (t : TypeId) : Gd P (Go.Extern.Rtype.noPackHeld s t) := by
  unfold Go.Extern.Rtype.noPackHeld
  repeat' first
    | infer_instance
    | refine Gd.bind ?_ fun _ => ?_
    | refine Gd.map _ ?_
    | refine Gd.ite ?_ ?_
    | intro _
    | split
    | dsimp only [Function.comp]
theorem gr_comp (t : TypeId) : Gd P (do Go.Extern.Rtype.noPackHeld "Comparable" t; pure (Value.bool (← typeInfo t).comparable) : Sem Value) :=
  Gd.bind inferInstance fun _ => Gd.bind inferInstance fun _ => inferInstance
theorem gr_size (t : TypeId) : Gd P (do Go.Extern.Rtype.noPackHeld "Size" t; pure (Value.int .u64 (← typeInfo t).bytes) : Sem Value) :=
  Gd.bind inferInstance fun _ => Gd.bind inferInstance fun _ => inferInstance
theorem gr_named {s : String} (t : TypeId) {x : Sem Value} (h : Gd P x) : Gd P (do Go.Extern.Rtype.noPackNamed s t; x) := Gd.bind inferInstance fun _ => h
end Go.Proofs.YtpenbkfchgeafaaGreatDoor

namespace Go.Proofs.YtpenbkfchgeafaaGreatDoor
open Go Go.Conc
variable {P : Program}

theorem at_end {fr : Frame} {w : World} {v : Value} {fn : Func} {t : Tmp} (hl : fr.leaving P w (.returned v)) (hf : P.funcs[fr.fn]? = some fn) (hres : fn.results = #[.tmp t]) (hi : P.inits.idxOf? fr.fn = none) :
    stepG P true (G fr []) w = .ended (.done v) w #[] := by
  obtain ⟨hm, hd, hk, fn', hf', hr⟩ := hl
  obtain rfl : fn = fn' := Option.some.inj (hf.symm.trans hf')
  have he : (results fn fr.tmps).events P w #[] = #[] := by simp [results, hres]
  simp [G, stepG, unwind, doReturn, hm, hd, hk, hf, hi, hr, he, seen, GStep.after]

theorem run_of_B {f : FuncId} {args : Array Value} {W : World} {Rv : Value → World → Prop} {fn : Func} {t : Tmp} (h : CallsB P f args W Rv) (hB : ∀ v w τ d, Rv v w → Rv v (On w τ d)) (hf : P.funcs[f]? = some fn) (hres : fn.results = #[.tmp t]) (hi : P.inits.idxOf? f = none) :
    ∃ M last o w' t', runNT P (M + 1) (solo (G (Frame.enter P f args .normal) []) W) #[] = (.ended o w', t') ∧ runN P M (solo (G (Frame.enter P f args .normal) []) W) = .next last ∧
      step P last = .ended o w' ∧ Conc.Good P (fun v w' => Rv v w' ∧ w'.tape = W.tape) last o w' t' := by
  obtain ⟨N, gs', g', w', sl', T', q', B', e, k0, ⟨fr, v, rfl, rfl, hl, _, hv⟩, k2, k3, k4⟩ := h [] (fun _ hx => by cases hx) W.drawn #[G (Frame.enter P f args .normal) []] none #[] (fun _ => 0) 0 rfl (leavers_one _ _) past_nil
  obtain ⟨M, last, o, u, t', r1, r2, r3, r4⟩ := beside_ends (P := P) (Shun := fun _ => False) (B := B') (D := fun _ _ _ => False) (Post := fun v u => Rv v u ∧ u.tape = W.tape) (sl := sl') (n := 0) (fun _ _ _ x => x.elim) k0 k2 k3 (Goes.stop fun w₁ h₁ => by
    obtain ⟨d, rfl⟩ := h₁
    exact ⟨rfl, v, #[], at_end (leaving_on hl w'.tape d) hf hres hi, by simp, hB _ _ w'.tape d hv, k4⟩)
  have e' : runNT P N (solo (G (Frame.enter P fr.fn args .normal) []) W) #[] = (.next (crowd gs' w' sl'), T') := e
  have e1 : runN P N (solo (G (Frame.enter P fr.fn args .normal) []) W) = .next (crowd gs' w' sl') := by rw [← runNT_fst P _ _ #[], e']
  refine ⟨N + M, last, o, u, t', ?_, ?_, r3, r4⟩
  · rw [Nat.add_assoc, runNT_add, e']; exact r1
  · rw [runN_add, e1]; exact r2
end Go.Proofs.YtpenbkfchgeafaaGreatDoor
