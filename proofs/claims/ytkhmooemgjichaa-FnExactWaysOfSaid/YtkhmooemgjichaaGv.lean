/- A goroutine's own step goes by the coming answers alone: variables that wait, returns, deferred calls. -/
import Derived.Test.YtkhmooemgjichaaGu
namespace Go.Proofs.Ytkhmooemgjichaa
open Go
variable {α β γ : Type} {P : Program}

theorem SGood.cases {c : World → γ} {F : γ → World → GStep} (hc : ∀ w τ d, c (On w τ d) = c w) (h : ∀ x, SGood (F x)) : SGood fun w => F (c w) w := by
  intro w
  rcases h (c w) w with hE | hF
  · exact .inl hE
  · obtain ⟨m, h1, h2, h3⟩ := hF.loc
    exact .inr ⟨⟨m, h1, h2, fun τ d ha => by rw [hc]; exact h3 τ d ha⟩, hF.mild, hF.kind⟩
/-- At each world, whatever its tape, it is one of good ones. -/
theorem SGood.via {f : World → GStep} (h : ∀ w, ∃ f', (∀ w', (∃ τ d, w' = On w τ d) → f w' = f' w') ∧ SGood f') : SGood f := by
  intro w
  obtain ⟨f', e', hf⟩ := h w
  have e : ∀ τ d, f (On w τ d) = f' (On w τ d) := fun τ d => e' _ ⟨τ, d, rfl⟩
  have e0 : f w = f' w := e w.tape w.drawn
  rcases hf w with hE | hF
  · left; rw [e0]; exact hE
  · right
    obtain ⟨m, h1, h2, h3⟩ := hF.loc
    exact ⟨⟨m, by rw [e0]; exact h1, by rw [e0]; exact h2, fun τ d ha => by rw [e, e0]; exact h3 τ d ha⟩, by rw [e0]; exact hF.mild, by rw [e0]; exact hF.kind⟩
theorem SGood.ifb {c : World → Bool} {A B : World → GStep} (hc : ∀ w τ d, c (On w τ d) = c w) (hA : SGood A) (hB : SGood B) : SGood fun w => if c w = true then A w else B w :=
  SGood.cases (c := c) (F := fun b w => if b = true then A w else B w) hc fun b => by
    cases b
    · exact hB
    · exact hA
theorem SGood.goW {g : Goroutine} {es : Array Event} {t : World → World} (h1 : ∀ w, (t w).tape = w.tape) (h2 : ∀ w, (t w).drawn = w.drawn) (h3 : ∀ w τ d, t (On w τ d) = On (t w) τ d) (hs : g.status = .running) (hp : PlainG g) (hm : Mild es) :
    SGood fun w => .go g (t w) es :=
  fun w => .inr ⟨⟨0, h1 w, h2 w, fun τ d _ => by rw [h3]; rfl⟩, hm, hs, hp⟩
theorem SGood.run' {Q : α → Prop} {x : Sem α} (hx : Good P Q x) {K : Result α → GStep} (hE : ∀ r, Ends r → SEnds (K r))
    (hok : ∀ a, Q a → SGood fun w => K (.ok a w)) (hhalt : ∀ h, (∀ w, ¬ Ends (.halt h w : Result α)) → SGood fun w => K (.halt h w)) : SGood fun w => K (x.run P w) :=
  SGood.cong (SGood.run hx (K := fun r _ => K r) (fun r _ => hE r) (fun a ha _ _ => hok a ha) fun h _ hn _ => hhalt h hn) fun w => by
    show K (x.run P w) = K (x.runT P w #[]).1
    rw [Sem.runT_fst]

theorem SGood.byRun {Q : α → Prop} {x : Sem α} (hx : Good P Q x) {f : World → GStep} (hE : ∀ w es r, x.runT P w #[] = (r, es) → Ends r → SEnds (f w))
    (hok : ∀ a, Q a → ∀ es, Mild es → ∃ f', (∀ w w', x.runT P w #[] = (.ok a w', es) → f w = f' w') ∧ SGood f')
    (hhalt : ∀ h es, (∀ w, ¬ Ends (.halt h w : Result α)) → ((∀ w, Heard (.halt h w : Result α)) → Mild es) → ∃ f', (∀ w w', x.runT P w #[] = (.halt h w', es) → f w = f' w') ∧ SGood f') : SGood f := by
  intro w
  have hms := runT_ms (P := P) x w #[] (by simp)
  have hxx := hx w #[]
  rcases hr : x.runT P w #[] with ⟨r, es⟩
  rw [hr] at hms hxx
  by_cases hends : Ends r
  · exact .inl (hE w es r hr hends)
  rcases hxx with h | hF
  · exact absurd h hends
  obtain ⟨m, h1, h2, h3⟩ := hF.loc
  have hbal := hF.bal
  have hout := hF.out
  rw [hr] at h1 h2 h3 hbal hout
  have main : ∀ (f' : World → GStep) (w' : World), SGood f' → w'.tape = w.tape → w'.drawn = w.drawn + m → f w = f' w' → (∀ τ d, Agr τ d w m → f (On w τ d) = f' (On w' τ (d + m))) → SEnds (f w) ∨ SFits f w := by
    intro f' w' hf' ht hd e0 e1
    rcases hf' w' with hE' | hF'
    · left; rw [e0]; exact hE'
    · right
      obtain ⟨n, g1, g2, g3⟩ := hF'.loc
      refine ⟨⟨m + n, by rw [e0, g1, ht], by rw [e0, g2, hd]; omega, fun τ d ha => ?_⟩, by rw [e0]; exact hF'.mild, by rw [e0]; exact hF'.kind⟩
      rw [e1 τ d ha.fst, g3 τ (d + m) (Agr.snd ha ht hd), e0, Nat.add_assoc]
  cases r with
  | ok a w' =>
    obtain ⟨f', e, hf'⟩ := hok a (hout a w' rfl) es ⟨fun d => hbal trivial d, hms⟩
    exact main f' w' hf' h1 h2 (e w w' hr) fun τ d ha => e _ _ (h3 τ d ha)
  | halt h w' =>
    have hne : ∀ w, ¬ Ends (.halt h w : Result α) := fun w x => hends (by cases h <;> first | exact x | (rename_i u; cases u <;> exact x))
    obtain ⟨f', e, hf'⟩ := hhalt h es hne fun hh => ⟨fun d => hbal (hh w') d, hms⟩
    exact main f' w' hf' h1 h2 (e w w' hr) fun τ d ha => e _ _ (h3 τ d ha)

theorem PlainG.mk' {fr : Frame} {cs : List Frame} {s : GoStatus} {dy : Option Dying} (h : PlainT fr.todo) (h' : PlainC cs) : PlainG { frame := fr, callers := cs, status := s, dying := dy } := ⟨h, h'⟩

theorem good_early (fr : Frame) (cs : List Frame) (dy : Option Dying) (g : Nat) (h : PlainT fr.todo) (h' : PlainC cs) : SGood fun w => early P fr cs dy g w := by
  have hnot : SGood fun w => (match w.heap[g]? with
      | some (.pending c elem) => GStep.go { frame := fr, callers := cs, status := .running, dying := dy } { w with heap := w.heap.setIfInBounds g (.cells c elem) }
      | _ => .ended (.stuck "early: the variable does not wait" (fr.pos P)) w) := by
    refine SGood.cases (c := fun w => w.heap[g]?) (F := fun x w => match x with
      | some (.pending c elem) => GStep.go { frame := fr, callers := cs, status := .running, dying := dy } { w with heap := w.heap.setIfInBounds g (.cells c elem) }
      | _ => .ended (.stuck "early: the variable does not wait" (fr.pos P)) w) (fun _ _ _ => rfl) fun x => ?_
    split
    · exact SGood.goW (fun _ => rfl) (fun _ => rfl) (fun _ _ _ => rfl) rfl (PlainG.mk' h h') mild_nil
    · exact SGood.ended fun _ => trivial
  have href : ∀ s : String, SGood fun w => GStep.ended (.unsupported (.initOrder g) s) w := fun s => SGood.ended fun _ => trivial
  have hthere : ∀ (f : FuncId) (b : World → List FuncId), (∀ w τ d, b (On w τ d) = b w) → SGood fun w => GStep.go { frame := Frame.enter P f #[] .early, callers := (b w).map (Frame.enter P · #[] .early) ++ fr :: cs, status := .running, dying := dy } w := by
    intro f b hb
    refine SGood.cases (c := b) (F := fun x w => GStep.go { frame := Frame.enter P f #[] .early, callers := x.map (Frame.enter P · #[] .early) ++ fr :: cs, status := .running, dying := dy } w) hb fun x => ?_
    refine SGood.go rfl (PlainG.mk' (plain_enter _ _ _) fun y hy => ?_) mild_nil
    rcases List.mem_append.1 hy with hy | hy
    · obtain ⟨z, _, rfl⟩ := List.mem_map.1 hy
      exact plain_enter _ _ _
    · rcases List.mem_cons.1 hy with rfl | hy
      · exact h
      · exact h' y hy
  unfold early
  dsimp only
  split
  · exact hnot
  · split
    · exact href _
    · rename_i f hf
      have hth := hthere f (fun w => if Option.any P.plainData (P.code? f) = true then List.drop 1 (P.brought w (2 * P.funcs.size + 1) [f] []) else []) (fun w τ d => by rw [brought_on])
      split
      · exact hnot
      · refine SGood.ifb (c := fun w => (Option.bind (Option.bind (P.code? f) fun c => (readies c).getLast?) w.shape?).isSome) (fun _ _ _ => rfl) hnot ?_
        refine SGood.via fun w => ?_
        have hxx : ∀ w', (∃ τ d, w' = On w τ d) → P.found w' P.funcs.size f = P.found w P.funcs.size f := fun w' ⟨τ, d, e⟩ => by rw [e, found_on]
        cases hx : P.found w P.funcs.size f
        · exact ⟨_, fun w' hw' => by rw [hxx w' hw', hx], href _⟩
        · cases hk : fr.kind == CallKind.early
          · exact ⟨_, fun w' hw' => by rw [hxx w' hw', hx]; rfl, hnot⟩
          · exact ⟨_, fun w' hw' => by rw [hxx w' hw', hx], href _⟩
        · cases hk : fr.kind == CallKind.early
          · refine ⟨_, fun w' hw' => by rw [hxx w' hw', hx], ?_⟩
            dsimp only
            split
            · exact hthere f (fun w => List.drop 1 (P.brought w (2 * P.funcs.size + 1) [f] [])) fun w τ d => by rw [brought_on]
            · split
              · exact hnot
              · refine SGood.byRun (P := P) (x := choose (.early g)) (inferInstance : Gd P (choose (.early g))).good ?_ ?_ ?_
                · intro w es r hr he
                  have : r = .ok ((Question.early g).cut (w.tape w.drawn (.early g))) { w with drawn := w.drawn + 1 } := (congrArg Prod.fst hr).symm
                  rw [this] at he
                  exact he.elim
                · intro a _ es _
                  by_cases ha : a = 0
                  · subst ha
                    refine ⟨_, fun w w' hr => ?_, hnot⟩
                    rw [← Sem.runT_fst P _ _ #[], hr]
                    rfl
                  · refine ⟨_, fun w w' hr => ?_, hthere f (fun _ => []) fun _ _ _ => rfl⟩
                    rw [← Sem.runT_fst P _ _ #[], hr]
                    cases a with
                    | zero => exact absurd rfl ha
                    | succ a => rfl
                · intro h es _ _
                  refine ⟨_, fun w w' hr => ?_, SGood.ended (f := fun w => GStep.ended (.stuck "early" (fr.pos P)) w) fun _ => trivial⟩
                  rw [← Sem.runT_fst P _ _ #[], hr]
          · exact ⟨_, fun w' hw' => by rw [hxx w' hw', hx], hth⟩

end Go.Proofs.Ytkhmooemgjichaa
