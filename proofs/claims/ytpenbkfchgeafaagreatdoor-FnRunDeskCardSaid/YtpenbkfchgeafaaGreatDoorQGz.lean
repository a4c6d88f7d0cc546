/- A goroutine's own step goes by the coming answers alone: whole. -/
import Derived.Test.YtpenbkfchgeafaaGreatDoorQLoc
import Derived.Conc.Listed
namespace Go.Proofs.YtpenbkfchgeafaaGreatDoor

section
section
section
section
section
section
section
open Go
variable {α β : Type} {P : Program}

/-- A word of the library's is said to all. -/
def MS (e : Event) : Prop := (∃ m, e.loc = .mark m) → e.sync = true
theorem ms_cell (a : Addr) (b c : Bool) : MS ⟨.cell a, b, c⟩ := fun ⟨_, h⟩ => by cases h
theorem ms_push {es : Array Event} {e : Event} (h : ∀ x ∈ es, MS x) (he : MS e) : ∀ x ∈ es.push e, MS x := fun x hx => by
  rcases Array.mem_push.1 hx with hx | rfl
  · exact h x hx
  · exact he
theorem ms_cells {es : Array Event} {l : List Addr} {b c : Bool} (h : ∀ x ∈ es, MS x) : ∀ x ∈ es ++ l.toArray.map (fun a => (⟨.cell a, b, c⟩ : Event)), MS x := fun x hx => by
  rcases Array.mem_append.1 hx with hx | hx
  · exact h x hx
  · obtain ⟨a, _, rfl⟩ := Array.mem_map.1 hx
    exact ms_cell _ _ _
theorem runT_ms (x : Sem α) : ∀ (w : World) (es : Array Event), (∀ e ∈ es, MS e) → ∀ e ∈ (x.runT P w es).2, MS e := by
  induction x with
  | pure a => exact fun w es he => he
  | load m a k ih =>
    intro w es he
    unfold Sem.runT
    split
    · exact ih _ _ _ (ms_push he (ms_cell _ _ _))
    · split
      · exact ih _ _ _ (ms_cells he)
      · exact he
  | store m a v k ih =>
    intro w es he
    cases v
    all_goals
      first
        | exact he
        | (simp only [Sem.runT]
           split
           · split
             · exact he
             · exact ih _ _ (ms_push he (ms_cell _ _ _))
           · split
             · exact ih _ _ (ms_cells he)
             · exact he)
  | new o k ih => exact fun w es he => ih _ _ _ he
  | shape r k ih => exact fun w es he => ih _ _ _ he
  | freeze a n k ih => exact fun w es he => ih _ _ he
  | frozen a k ih => exact fun w es he => ih _ _ _ he
  | getObj r k ih =>
    intro w es he
    unfold Sem.runT
    split
    · exact he
    · exact ih _ _ _ (ms_push he fun ⟨_, h⟩ => by cases h)
    · exact he
  | setObj r o k ih =>
    intro w es he
    unfold Sem.runT
    split
    · exact he
    · exact ih _ _ (ms_push he fun ⟨_, h⟩ => by cases h)
    · exact he
  | choose q k ih =>
    intro w es he
    unfold Sem.runT
    split
    · exact ih _ _ _ he
    · exact ih _ _ _ he
  | sys c k ih => exact fun w es he => ih _ _ _ (ms_push he fun ⟨_, h⟩ => by cases h)
  | program k ih => exact fun w es he => ih _ _ _ he
  | mark m k ih => exact fun w es he => ih _ _ (ms_push he fun _ => rfl)
  | halt x => exact fun w es he => he

/-- What a list turns of its goroutine's deafness: nothing; and what is kept of it turns as much. -/
def Mild (es : Array Event) : Prop := (∀ d, deafBehind d es = d) ∧ ∀ e ∈ es, MS e
theorem mild_nil : Mild #[] := ⟨fun _ => rfl, by simp⟩
theorem deaf_append (d : Nat) (a b : Array Event) : deafBehind d (a ++ b) = deafBehind (deafBehind d a) b := by
  unfold deafBehind
  rw [Array.foldl_append]
theorem Mild.app {a b : Array Event} (h : Mild a) (h' : Mild b) : Mild (a ++ b) :=
  ⟨fun d => by rw [deaf_append, h.1, h'.1], fun e he => (Array.mem_append.1 he).elim (h.2 e) (h'.2 e)⟩

theorem seenStep_mark (q : FuncId → Bool) (b : Bool) (kept : Array Event) {e : Event} {f : FuncId} (h : e.loc = .mark (.extern f)) : Conc.seenStep q (b, kept) e = (q f, kept) := by
  unfold Conc.seenStep
  dsimp only
  rw [h]
theorem seenStep_else (q : FuncId → Bool) (b : Bool) (kept : Array Event) {e : Event} (h : ∀ f, e.loc ≠ .mark (.extern f)) : Conc.seenStep q (b, kept) e = (b, if b && !e.sync then kept else kept.push e) := by
  unfold Conc.seenStep
  dsimp only
  split
  · rename_i f hf; exact absurd hf (h f)
  · rfl

theorem seen_deaf (fn : FuncId) (es : Array Event) (h : ∀ e ∈ es, MS e) (d : Nat) : deafBehind d (seen P fn es) = deafBehind d es := by
  have key : ∀ (l : List Event) (q : Bool) (kept : Array Event), (∀ e ∈ l, MS e) →
      deafBehind d (l.foldl (Conc.seenStep fun f => (P.funcs[f]?).any (·.norace)) (q, kept)).2 = deafBehind d (kept ++ l.toArray) := by
    intro l
    induction l with
    | nil => intro q kept _; simp
    | cons e l ih =>
      intro q kept hl
      have e1 : kept ++ (e :: l).toArray = kept.push e ++ l.toArray := by simp
      rw [List.foldl_cons, e1]
      have hl' : ∀ x ∈ l, MS x := fun x hx => hl x (by simp [hx])
      have drop : e.loc ≠ .mark .disable → e.loc ≠ .mark .enable → deafBehind d (kept.push e ++ l.toArray) = deafBehind d (kept ++ l.toArray) := fun h1 h2 => by
        rw [deaf_append, deaf_push _ _ h1 h2, ← deaf_append]
      by_cases hf : ∃ f, e.loc = .mark (.extern f)
      · obtain ⟨f, hf⟩ := hf
        rw [seenStep_mark _ _ _ hf, ih _ _ hl', drop (by rw [hf]; simp) (by rw [hf]; simp)]
      · rw [seenStep_else _ _ _ (fun f h => hf ⟨f, h⟩), ih _ _ hl']
        split
        · rename_i hq
          have hs : e.sync = false := by simp at hq; exact hq.2
          rw [drop]
          · intro hm
            have := hl e (by simp) ⟨_, hm⟩
            rw [hs] at this; cases this
          · intro hm
            have := hl e (by simp) ⟨_, hm⟩
            rw [hs] at this; cases this
        · rfl
  rw [Conc.seen_def, key es.toList _ #[] (fun e he => h e (Array.mem_toList_iff.1 he))]
  simp

theorem seen_sub (fn : FuncId) (es : Array Event) : ∀ e ∈ seen P fn es, e ∈ es := by
  have key : ∀ (l : List Event) (q : Bool) (kept : Array Event),
      ∀ e ∈ (l.foldl (Conc.seenStep fun f => (P.funcs[f]?).any (·.norace)) (q, kept)).2, e ∈ kept ∨ e ∈ l := by
    intro l
    induction l with
    | nil => intro q kept e he; exact .inl he
    | cons y l ih =>
      intro q kept e he
      rw [List.foldl_cons] at he
      by_cases hf : ∃ f, y.loc = .mark (.extern f)
      · obtain ⟨f, hf⟩ := hf
        rw [seenStep_mark _ _ _ hf] at he
        exact (ih _ _ e he).imp id fun h => by simp [h]
      · rw [seenStep_else _ _ _ (fun f h => hf ⟨f, h⟩)] at he
        rcases ih _ _ e he with h | h
        · split at h
          · exact .inl h
          · rcases Array.mem_push.1 h with h | rfl
            · exact .inl h
            · exact .inr (by simp)
        · exact .inr (by simp [h])
  intro e he
  rw [Conc.seen_def] at he
  rcases key _ _ _ e he with h | h
  · simp at h
  · exact Array.mem_toList_iff.1 h

theorem Mild.seen {es : Array Event} (h : Mild es) (fn : FuncId) : Mild (seen P fn es) :=
  ⟨fun d => by rw [seen_deaf fn es h.2, h.1], fun e he => h.2 e (seen_sub fn es e he)⟩

end

open Go
variable {α β : Type} {P : Program}

def sw : GStep → World
  | .go _ w _ | .comm _ _ _ _ w _ | .spawn _ _ w _ | .count _ w _ | .timer _ _ w _ | .alone _ _ w _ | .newcoro _ _ _ w _ | .coroswitch _ _ _ w _ | .collect _ w _ | .watch _ w _ | .ended _ w _ => w

def sOn (τ : Tp) (d : Nat) : GStep → GStep
  | .go g w es => .go g (On w τ d) es
  | .comm g cs b sh w es => .comm g cs b sh (On w τ d) es
  | .spawn g c w es => .spawn g c (On w τ d) es
  | .count g w es => .count g (On w τ d) es
  | .timer g op w es => .timer g op (On w τ d) es
  | .alone g on w es => .alone g on (On w τ d) es
  | .newcoro g c dd w es => .newcoro g c dd (On w τ d) es
  | .coroswitch g c e w es => .coroswitch g c e (On w τ d) es
  | .collect g w es => .collect g (On w τ d) es
  | .watch g w es => .watch g (On w τ d) es
  | .ended o w es => .ended o (On w τ d) es

def PlainI : Item → Prop
  | .call .. => False
  | .extern row _ => row = "runtime.print$piece"
  | _ => True
def PlainT (l : List Item) : Prop := ∀ it ∈ l, PlainI it
def PlainG (g : Goroutine) : Prop := PlainT g.frame.todo ∧ ∀ fr ∈ g.callers, PlainT fr.todo

/-- The run ends, or goroutine 0 goes on no more. -/
def SEnds : GStep → Prop
  | .ended .. => True
  | .go g _ _ => g.status = .blocked ∨ g.status = .waiting ∨ g.status = .finished
  | _ => False

def SKind : GStep → Prop
  | .go g _ _ => g.status = .running ∧ PlainG g
  | .comm g _ _ _ _ _ => g.status = .running ∧ PlainG g
  | .coroswitch g _ e _ _ => e = true ∧ g.status = .running ∧ PlainG g
  | .spawn .. | .newcoro .. => True
  | _ => False

structure SFits (f : World → GStep) (w : World) : Prop where
  loc : ∃ m, (sw (f w)).tape = w.tape ∧ (sw (f w)).drawn = w.drawn + m ∧ ∀ τ d, Agr τ d w m → f (On w τ d) = sOn τ (d + m) (f w)
  mild : Mild (f w).es
  kind : SKind (f w)

def SGood (f : World → GStep) : Prop := ∀ w, SEnds (f w) ∨ SFits f w

theorem SGood.ended {f : World → GStep} (h : ∀ w, SEnds (f w)) : SGood f := fun w => .inl (h w)
theorem SGood.go {g : Goroutine} {es : Array Event} (hs : g.status = .running) (hp : PlainG g) (hm : Mild es) : SGood fun w => .go g w es :=
  fun _ => .inr ⟨⟨0, rfl, rfl, fun _ _ _ => rfl⟩, hm, hs, hp⟩

theorem es_after (es : Array Event) (s : GStep) : (GStep.after es s).es = es ++ s.es := by cases s <;> rfl
theorem sw_after (es : Array Event) (s : GStep) : sw (GStep.after es s) = sw s := by cases s <;> rfl
theorem sOn_after (es : Array Event) (s : GStep) (τ : Tp) (d : Nat) : sOn τ d (GStep.after es s) = GStep.after es (sOn τ d s) := by cases s <;> rfl
theorem SEnds.after {es : Array Event} {s : GStep} (h : SEnds s) : SEnds (GStep.after es s) := by cases s <;> exact h
theorem SKind.after {es : Array Event} {s : GStep} (h : SKind s) : SKind (GStep.after es s) := by cases s <;> exact h
theorem SGood.after {es : Array Event} (hm : Mild es) {f : World → GStep} (h : SGood f) : SGood fun w => GStep.after es (f w) := by
  intro w
  rcases h w with hE | hF
  · exact .inl hE.after
  · refine .inr ⟨?_, ?_, hF.kind.after⟩
    · obtain ⟨m, h1, h2, h3⟩ := hF.loc
      exact ⟨m, by rw [sw_after]; exact h1, by rw [sw_after]; exact h2, fun τ d ha => by rw [h3 τ d ha, sOn_after]⟩
    · rw [es_after]
      exact hm.app hF.mild
/-- A step that does not touch the world before it has been decided. -/
theorem SGood.cong {f f' : World → GStep} (h : SGood f') (e : ∀ w, f w = f' w) : SGood f := by
  have : f = f' := funext e
  rw [this]; exact h

theorem SGood.run {Q : α → Prop} {x : Sem α} (hx : Good P Q x) {K : Result α → Array Event → GStep} (hE : ∀ r es, Ends r → SEnds (K r es))
    (hok : ∀ a, Q a → ∀ es, Mild es → SGood fun w => K (.ok a w) es)
    (hhalt : ∀ h es, (∀ w, ¬ Ends (.halt h w : Result α)) → ((∀ w, Heard (.halt h w : Result α)) → Mild es) → SGood fun w => K (.halt h w) es) :
    SGood fun w => K (x.runT P w #[]).1 (x.runT P w #[]).2 := by
  intro w
  have hms := runT_ms (P := P) x w #[] (by simp)
  rcases hx w #[] with h | hF
  · exact .inl (hE _ _ h)
  obtain ⟨m, h1, h2, h3⟩ := hF.loc
  have hbal := hF.bal
  have hout := hF.out
  rcases hr : x.runT P w #[] with ⟨r, es⟩
  rw [hr] at h1 h2 h3 hbal hout hms
  by_cases hends : Ends r
  · left; dsimp only; rw [hr]; exact hE _ _ hends
  cases r with
  | ok a w' =>
    have hmild : Mild es := ⟨fun d => hbal trivial d, hms⟩
    rcases hok a (hout a w' rfl) es hmild w' with hE' | hF'
    · left; dsimp only; rw [hr]; exact hE'
    · right
      obtain ⟨n, g1, g2, g3⟩ := hF'.loc
      refine ⟨⟨m + n, ?_, ?_, fun τ d ha => ?_⟩, ?_, ?_⟩
      · rw [hr]; exact g1.trans h1
      · rw [hr]; dsimp only at g2 ⊢; rw [g2, show w'.drawn = w.drawn + m from h2]; omega
      · rw [h3 τ d ha.fst, hr]
        have := g3 τ (d + m) (Agr.snd ha h1 h2)
        rw [← Nat.add_assoc]
        exact this
      · rw [hr]; exact hF'.mild
      · rw [hr]; exact hF'.kind
  | halt h w' =>
    have hne : ∀ w, ¬ Ends (.halt h w : Result α) := fun w x => hends (by cases h <;> first | exact x | (rename_i u; cases u <;> exact x))
    have hmild : (∀ w, Heard (.halt h w : Result α)) → Mild es := fun hh => ⟨fun d => hbal (hh w') d, hms⟩
    rcases hhalt h es hne hmild w' with hE' | hF'
    · left; dsimp only; rw [hr]; exact hE'
    · right
      obtain ⟨n, g1, g2, g3⟩ := hF'.loc
      refine ⟨⟨m + n, ?_, ?_, fun τ d ha => ?_⟩, ?_, ?_⟩
      · rw [hr]; exact g1.trans h1
      · rw [hr]; dsimp only at g2 ⊢; rw [g2, show w'.drawn = w.drawn + m from h2]; omega
      · rw [h3 τ d ha.fst, hr]
        have := g3 τ (d + m) (Agr.snd ha h1 h2)
        rw [← Nat.add_assoc]
        exact this
      · rw [hr]; exact hF'.mild
      · rw [hr]; exact hF'.kind

end

open Go
variable {α β : Type} {P : Program}

theorem PlainT.tail {x : Item} {k : List Item} (h : PlainT (x :: k)) : PlainT k := fun it hi => h it (by simp [hi])
theorem PlainT.head {x : Item} {k : List Item} (h : PlainT (x :: k)) : PlainI x := h x (by simp)
theorem PlainT.cons {x : Item} {k : List Item} (hx : PlainI x) (h : PlainT k) : PlainT (x :: k) := fun it hi => by
  rcases List.mem_cons.1 hi with rfl | hi
  · exact hx
  · exact h it hi
theorem PlainT.nil : PlainT [] := fun it hi => by cases hi
theorem PlainT.append {a b : List Item} (h : PlainT a) (h' : PlainT b) : PlainT (a ++ b) := fun it hi => (List.mem_append.1 hi).elim (h it) (h' it)

theorem plain_finish {fr : Frame} (h : PlainT fr.todo) (v : Value) : PlainT (fr.finish v).todo := by
  unfold Frame.finish
  split
  · rename_i e; rw [e] at h; exact PlainT.cons trivial h.tail
  · rename_i e; rw [e] at h; exact PlainT.cons trivial h.tail
  · rename_i e; rw [e] at h; exact h.tail
  · rename_i e; rw [e] at h; exact h.head.elim
  · rename_i e; rw [e] at h; exact h.tail
  · exact h
theorem raise_todo (fr : Frame) (vs : List PanicEntry) : (fr.raise vs).todo = fr.todo := by unfold Frame.raise; split <;> rfl
theorem plain_exitTo {id : Nat} : ∀ {k k' : List Item}, PlainT k → exitTo id k = some k' → PlainT k' := by
  intro k
  induction k with
  | nil => intro k' _ e; simp [exitTo] at e
  | cons x k ih =>
    intro k' h e
    cases x
    case inBlock id' =>
      simp only [exitTo] at e
      split at e
      · rw [← Option.some.inj e]; exact h.tail
      · exact ih h.tail e
    all_goals exact ih h.tail (by simpa [exitTo] using e)
theorem plain_gotoIn {l : Nat} : ∀ {k k' : List Item}, PlainT k → gotoIn l k = some k' → PlainT k' := by
  intro k
  induction k with
  | nil => intro k' _ e; simp [gotoIn] at e
  | cons x k ih =>
    intro k' h e
    cases x
    case inScope body =>
      simp only [gotoIn] at e
      split at e
      · rw [← Option.some.inj e]; exact PlainT.cons trivial (PlainT.cons trivial h.tail)
      · exact ih h.tail e
    all_goals exact ih h.tail (by simpa [gotoIn] using e)
theorem plain_enter (f : FuncId) (args : Array Value) (k : CallKind) : PlainT (Frame.enter P f args k).todo := PlainT.cons trivial PlainT.nil
theorem plain_round (l : Nat) (f : FuncId) (t : Array Value) (a b : Code) (k : CallKind) : PlainT (Frame.round l f t a b k).todo := PlainT.cons trivial (PlainT.cons trivial (PlainT.cons trivial PlainT.nil))
theorem plain_row {row : String} (h : row = "runtime.print$piece") (args : Array Value) (k : CallKind) : PlainT (Frame.ofRow P row args k).todo := PlainT.cons h PlainT.nil

def PlainC (cs : List Frame) : Prop := ∀ fr ∈ cs, PlainT fr.todo
theorem PlainC.cons {fr : Frame} {cs : List Frame} (h : PlainT fr.todo) (h' : PlainC cs) : PlainC (fr :: cs) := fun x hx => by
  rcases List.mem_cons.1 hx with rfl | hx
  · exact h
  · exact h' x hx
theorem PlainC.tail {fr : Frame} {cs : List Frame} (h : PlainC (fr :: cs)) : PlainC cs := fun x hx => h x (by simp [hx])
theorem PlainC.head {fr : Frame} {cs : List Frame} (h : PlainC (fr :: cs)) : PlainT fr.todo := h fr (by simp)

theorem plain_tryRecover {fr : Frame} {cs cs' : List Frame} {v : Value} : PlainC cs → tryRecover fr cs = some (v, cs') → PlainC cs' := by
  induction cs generalizing fr v cs' with
  | nil =>
    intro h e
    unfold tryRecover at e
    split at e
    · rename_i he; cases he
    · rename_i he; cases he
    · cases e
  | cons c cs ih =>
    intro h e
    unfold tryRecover at e
    split at e
    · rename_i hk he
      cases he
      split at e
      · cases e
        exact PlainC.cons h.head h.tail
      · cases e
    · rename_i hk he
      cases he
      cases ht : tryRecover c cs with
      | none => rw [ht] at e; cases e
      | some x =>
        obtain ⟨v', rest⟩ := x
        rw [ht] at e
        cases e
        exact PlainC.cons h.head (ih h.tail ht)
    · cases e
theorem plain_tryRecoverLoop {cs cs' : List Frame} {v : Value} : ∀ {l : Nat}, PlainC cs → tryRecoverLoop l cs = some (v, cs') → PlainC cs' := by
  induction cs generalizing v cs' with
  | nil => intro l h e; simp [tryRecoverLoop] at e
  | cons c cs ih =>
    intro l h e
    unfold tryRecoverLoop at e
    have key : ∀ x, Option.map (fun (y : Value × List Frame) => (y.1, c :: y.2)) x = some (v, cs') → (∀ v' r, x = some (v', r) → PlainC r) → PlainC cs' := by
      intro x hx hr
      cases x with
      | none => cases hx
      | some y =>
        obtain ⟨v', r⟩ := y
        cases hx
        exact PlainC.cons h.head (hr v' r rfl)
    refine key _ e fun v' r hr => ?_
    split at hr
    · exact ih h.tail hr
    · split at hr
      · exact plain_tryRecover h.tail hr
      · exact ih h.tail hr
    · exact ih h.tail hr

theorem found_on (w : World) (τ : Tp) (d : Nat) : ∀ (n : Nat) (f : FuncId), P.found (On w τ d) n f = P.found w n f := by
  intro n
  induction n with
  | zero => intro f; rfl
  | succ n ih =>
    intro f
    unfold Program.found
    have hs : (On w τ d).shape? = w.shape? := rfl
    have hh : (On w τ d).heap = w.heap := rfl
    simp only [hs, hh, ih]
theorem brought_on (w : World) (τ : Tp) (d : Nat) : ∀ (n : Nat) (t s : List FuncId), P.brought (On w τ d) n t s = P.brought w n t s := by
  intro n
  induction n with
  | zero => intro t s; unfold Program.brought; rfl
  | succ n ih =>
    intro t s
    cases t with
    | nil => unfold Program.brought; rfl
    | cons f t =>
      unfold Program.brought
      have hh : (On w τ d).heap = w.heap := rfl
      simp only [hh, ih]

end

open Go
variable {α β γ : Type} {P : Program}

theorem SGood.cases {c : World → γ} {F : γ → World → GStep} (hc : ∀ w τ d, c (On w τ d) = c w) (h : ∀ x, SGood (F x)) : SGood fun w => F (c w) w := by
  intro w
  rcases h (c w) w with hE | hF
  · exact .inl hE
  · obtain ⟨m, h1, h2, h3⟩ := hF.loc
    exact .inr ⟨⟨m, h1, h2, fun τ d ha => by rw [hc]; exact h3 τ d ha⟩, hF.mild, hF.kind⟩
/-- At each world, whatever its tape, it is one of good ones. -/
theorem SGood.via {f : World → GStep} (h : ∀ w, ∃ f', (∀ w', (∃ τ d, w' = On w τ d) → f w' = f' w') ∧ SGood f') : SGood f := by
  intro w
  obtain ⟨f', e', hf⟩ := h w
  have e : ∀ τ d, f (On w τ d) = f' (On w τ d) := fun τ d => e' _ ⟨τ, d, rfl⟩
  have e0 : f w = f' w := e w.tape w.drawn
  rcases hf w with hE | hF
  · left; rw [e0]; exact hE
  · right
    obtain ⟨m, h1, h2, h3⟩ := hF.loc
    exact ⟨⟨m, by rw [e0]; exact h1, by rw [e0]; exact h2, fun τ d ha => by rw [e, e0]; exact h3 τ d ha⟩, by rw [e0]; exact hF.mild, by rw [e0]; exact hF.kind⟩
theorem SGood.ifb {c : World → Bool} {A B : World → GStep} (hc : ∀ w τ d, c (On w τ d) = c w) (hA : SGood A) (hB : SGood B) : SGood fun w => if c w = true then A w else B w :=
  SGood.cases (c := c) (F := fun b w => if b = true then A w else B w) hc fun b => by
    cases b
    · exact hB
    · exact hA
theorem SGood.goW {g : Goroutine} {es : Array Event} {t : World → World} (h1 : ∀ w, (t w).tape = w.tape) (h2 : ∀ w, (t w).drawn = w.drawn) (h3 : ∀ w τ d, t (On w τ d) = On (t w) τ d) (hs : g.status = .running) (hp : PlainG g) (hm : Mild es) :
    SGood fun w => .go g (t w) es :=
  fun w => .inr ⟨⟨0, h1 w, h2 w, fun τ d _ => by rw [h3]; rfl⟩, hm, hs, hp⟩
theorem SGood.run' {Q : α → Prop} {x : Sem α} (hx : Good P Q x) {K : Result α → GStep} (hE : ∀ r, Ends r → SEnds (K r))
    (hok : ∀ a, Q a → SGood fun w => K (.ok a w)) (hhalt : ∀ h, (∀ w, ¬ Ends (.halt h w : Result α)) → SGood fun w => K (.halt h w)) : SGood fun w => K (x.run P w) :=
  SGood.cong (SGood.run hx (K := fun r _ => K r) (fun r _ => hE r) (fun a ha _ _ => hok a ha) fun h _ hn _ => hhalt h hn) fun w => by
    show K (x.run P w) = K (x.runT P w #[]).1
    rw [Sem.runT_fst]

theorem SGood.byRun {Q : α → Prop} {x : Sem α} (hx : Good P Q x) {f : World → GStep} (hE : ∀ w es r, x.runT P w #[] = (r, es) → Ends r → SEnds (f w))
    (hok : ∀ a, Q a → ∀ es, Mild es → ∃ f', (∀ w w', x.runT P w #[] = (.ok a w', es) → f w = f' w') ∧ SGood f')
    (hhalt : ∀ h es, (∀ w, ¬ Ends (.halt h w : Result α)) → ((∀ w, Heard (.halt h w : Result α)) → Mild es) → ∃ f', (∀ w w', x.runT P w #[] = (.halt h w', es) → f w = f' w') ∧ SGood f') : SGood f := by
  intro w
  have hms := runT_ms (P := P) x w #[] (by simp)
  have hxx := hx w #[]
  rcases hr : x.runT P w #[] with ⟨r, es⟩
  rw [hr] at hms hxx
  by_cases hends : Ends r
  · exact .inl (hE w es r hr hends)
  rcases hxx with h | hF
  · exact absurd h hends
  obtain ⟨m, h1, h2, h3⟩ := hF.loc
  have hbal := hF.bal
  have hout := hF.out
  rw [hr] at h1 h2 h3 hbal hout
  have main : ∀ (f' : World → GStep) (w' : World), SGood f' → w'.tape = w.tape → w'.drawn = w.drawn + m → f w = f' w' → (∀ τ d, Agr τ d w m → f (On w τ d) = f' (On w' τ (d + m))) → SEnds (f w) ∨ SFits f w := by
    intro f' w' hf' ht hd e0 e1
    rcases hf' w' with hE' | hF'
    · left; rw [e0]; exact hE'
    · right
      obtain ⟨n, g1, g2, g3⟩ := hF'.loc
      refine ⟨⟨m + n, by rw [e0, g1, ht], by rw [e0, g2, hd]; omega, fun τ d ha => ?_⟩, by rw [e0]; exact hF'.mild, by rw [e0]; exact hF'.kind⟩
      rw [e1 τ d ha.fst, g3 τ (d + m) (Agr.snd ha ht hd), e0, Nat.add_assoc]
  cases r with
  | ok a w' =>
    obtain ⟨f', e, hf'⟩ := hok a (hout a w' rfl) es ⟨fun d => hbal trivial d, hms⟩
    exact main f' w' hf' h1 h2 (e w w' hr) fun τ d ha => e _ _ (h3 τ d ha)
  | halt h w' =>
    have hne : ∀ w, ¬ Ends (.halt h w : Result α) := fun w x => hends (by cases h <;> first | exact x | (rename_i u; cases u <;> exact x))
    obtain ⟨f', e, hf'⟩ := hhalt h es hne fun hh => ⟨fun d => hbal (hh w') d, hms⟩
    exact main f' w' hf' h1 h2 (e w w' hr) fun τ d ha => e _ _ (h3 τ d ha)

theorem PlainG.mk' {fr : Frame} {cs : List Frame} {s : GoStatus} {dy : Option Dying} (h : PlainT fr.todo) (h' : PlainC cs) : PlainG { frame := fr, callers := cs, status := s, dying := dy } := ⟨h, h'⟩

theorem good_early (fr : Frame) (cs : List Frame) (dy : Option Dying) (g : Nat) (h : PlainT fr.todo) (h' : PlainC cs) : SGood fun w => early P fr cs dy g w := by
  have hnot : SGood fun w => (match w.heap[g]? with
      | some (.pending c elem) => GStep.go { frame := fr, callers := cs, status := .running, dying := dy } { w with heap := w.heap.setIfInBounds g (.cells c elem) }
      | _ => .ended (.stuck "early: the variable does not wait" (fr.pos P)) w) := by
    refine SGood.cases (c := fun w => w.heap[g]?) (F := fun x w => match x with
      | some (.pending c elem) => GStep.go { frame := fr, callers := cs, status := .running, dying := dy } { w with heap := w.heap.setIfInBounds g (.cells c elem) }
      | _ => .ended (.stuck "early: the variable does not wait" (fr.pos P)) w) (fun _ _ _ => rfl) fun x => ?_
    split
    · exact SGood.goW (fun _ => rfl) (fun _ => rfl) (fun _ _ _ => rfl) rfl (PlainG.mk' h h') mild_nil
    · exact SGood.ended fun _ => trivial
  have href : ∀ s : String, SGood fun w => GStep.ended (.unsupported (.initOrder g) s) w := fun s => SGood.ended fun _ => trivial
  have hthere : ∀ (f : FuncId) (b : World → List FuncId), (∀ w τ d, b (On w τ d) = b w) → SGood fun w => GStep.go { frame := Frame.enter P f #[] .early, callers := (b w).map (Frame.enter P · #[] .early) ++ fr :: cs, status := .running, dying := dy } w := by
    intro f b hb
    refine SGood.cases (c := b) (F := fun x w => GStep.go { frame := Frame.enter P f #[] .early, callers := x.map (Frame.enter P · #[] .early) ++ fr :: cs, status := .running, dying := dy } w) hb fun x => ?_
    refine SGood.go rfl (PlainG.mk' (plain_enter _ _ _) fun y hy => ?_) mild_nil
    rcases List.mem_append.1 hy with hy | hy
    · obtain ⟨z, _, rfl⟩ := List.mem_map.1 hy
      exact plain_enter _ _ _
    · rcases List.mem_cons.1 hy with rfl | hy
      · exact h
      · exact h' y hy
  unfold early
  dsimp only
  split
  · exact hnot
  · split
    · exact href _
    · rename_i f hf
      have hth := hthere f (fun w => if Option.any P.plainData (P.code? f) = true then List.drop 1 (P.brought w (2 * P.funcs.size + 1) [f] []) else []) (fun w τ d => by rw [brought_on])
      split
      · exact hnot
      · refine SGood.ifb (c := fun w => (Option.bind (Option.bind (P.code? f) fun c => (readies c).getLast?) w.shape?).isSome) (fun _ _ _ => rfl) hnot ?_
        refine SGood.via fun w => ?_
        have hxx : ∀ w', (∃ τ d, w' = On w τ d) → P.found w' P.funcs.size f = P.found w P.funcs.size f := fun w' ⟨τ, d, e⟩ => by rw [e, found_on]
        cases hx : P.found w P.funcs.size f
        · exact ⟨_, fun w' hw' => by rw [hxx w' hw', hx], href _⟩
        · cases hk : fr.kind == CallKind.early
          · exact ⟨_, fun w' hw' => by rw [hxx w' hw', hx]; rfl, hnot⟩
          · exact ⟨_, fun w' hw' => by rw [hxx w' hw', hx], href _⟩
        · cases hk : fr.kind == CallKind.early
          · refine ⟨_, fun w' hw' => by rw [hxx w' hw', hx], ?_⟩
            dsimp only
            split
            · exact hthere f (fun w => List.drop 1 (P.brought w (2 * P.funcs.size + 1) [f] [])) fun w τ d => by rw [brought_on]
            · split
              · exact hnot
              · refine SGood.byRun (P := P) (x := choose (.early g)) (inferInstance : Gd P (choose (.early g))).good ?_ ?_ ?_
                · intro w es r hr he
                  have : r = .ok ((Question.early g).cut (w.tape w.drawn (.early g))) { w with drawn := w.drawn + 1 } := (congrArg Prod.fst hr).symm
                  rw [this] at he
                  exact he.elim
                · intro a _ es _
                  by_cases ha : a = 0
                  · subst ha
                    refine ⟨_, fun w w' hr => ?_, hnot⟩
                    rw [← Sem.runT_fst P _ _ #[], hr]
                    rfl
                  · refine ⟨_, fun w w' hr => ?_, hthere f (fun _ => []) fun _ _ _ => rfl⟩
                    rw [← Sem.runT_fst P _ _ #[], hr]
                    cases a with
                    | zero => exact absurd rfl ha
                    | succ a => rfl
                · intro h es _ _
                  refine ⟨_, fun w w' hr => ?_, SGood.ended (f := fun w => GStep.ended (.stuck "early" (fr.pos P)) w) fun _ => trivial⟩
                  rw [← Sem.runT_fst P _ _ #[], hr]
          · exact ⟨_, fun w' hw' => by rw [hxx w' hw', hx], hth⟩

end

open Go
variable {α β γ : Type} {P : Program}

theorem good_doReturn (fr : Frame) (cs : List Frame) (dy : Option Dying) (v : Value) (h : PlainT fr.todo) (h' : PlainC cs) : SGood fun w => doReturn P true fr cs dy v w := by
  cases cs with
  | cons c cs =>
    have hd : ∀ m : FrameMode, PlainT ({ c with mode := m } : Frame).todo := fun _ => h'.head
    cases hk : fr.kind
    · simp only [doReturn, hk]; exact SGood.go rfl (PlainG.mk' (plain_finish h'.head _) h'.tail) mild_nil
    case wrapped => simp only [doReturn, hk]; exact SGood.go rfl (PlainG.mk' (plain_finish h'.head _) h'.tail) mild_nil
    case early => simp only [doReturn, hk]; exact SGood.go rfl (PlainG.mk' h'.head h'.tail) mild_nil
    all_goals
      simp only [doReturn, hk]
      refine SGood.go rfl (PlainG.mk' ?_ h'.tail) mild_nil
      split
      · split <;> exact h'.head
      · exact h'.head
  | nil =>
    unfold doReturn
    dsimp only
    split
    · exact SGood.go rfl (PlainG.mk' h h') mild_nil
    · exact SGood.ended fun _ => trivial
    · simp only [Bool.not_true, if_false, Bool.false_eq_true]
      split
      · exact SGood.go rfl (PlainG.mk' (plain_enter _ _ _) fun _ hx => by cases hx) mild_nil
      · exact SGood.ended fun _ => trivial

theorem good_dieOf (fr : Frame) (a : List ByteArray) (m : String) (b : Bool) (h : PlainT fr.todo) : SGood fun w => dieOf fr a m b w := by
  unfold dieOf
  exact SGood.go rfl (PlainG.mk' h fun _ hx => by cases hx) mild_nil
theorem good_endThrow (fr : Frame) (m : String) (h : PlainT fr.todo) : SGood fun w => endThrow fr m w := good_dieOf _ _ _ _ h
theorem good_endPrinting (fr : Frame) (v : Value) (h : PlainT fr.todo) : SGood fun w => endPrinting P fr v w := by
  unfold endPrinting
  dsimp only
  split
  · exact good_endThrow _ _ h
  · exact SGood.ended fun _ => trivial

instance gd_withAddress (s : ByteArray) : Gd P (withAddress s) := by
  unfold withAddress
  exact Gd.bind inferInstance fun _ => inferInstance
instance gd_reportChain : ∀ (c : List PanicEntry) (b : Bool), Gd P (reportChain c b) := by
  intro c
  induction c with
  | nil => intro b; unfold reportChain; infer_instance
  | cons e l ih =>
    intro b
    unfold reportChain
    repeat' first
      | exact ih _
      | infer_instance
      | refine Gd.bind ?_ fun _ => ?_
      | refine Gd.ite ?_ ?_
      | intro _
      | split
      | dsimp only

/-- A step that runs an entry, and lists nothing. -/
theorem SGood.runs {x : Sem α} (hx : Gd P x) {K : α → World → GStep} {H : Halt → World → GStep} (hK : ∀ a, SGood (K a)) (hH : ∀ h w, SEnds (H h w)) :
    SGood fun w => match x.run P w with | .ok a w => K a w | .halt h w => H h w := by
  refine SGood.byRun hx.good ?_ ?_ ?_
  · intro w es r hr he
    rw [← Sem.runT_fst P _ _ #[], hr]
    cases r with
    | ok a w' => exact he.elim
    | halt h w' => exact hH h w'
  · intro a _ es _
    refine ⟨_, fun w w' hr => ?_, hK a⟩
    rw [← Sem.runT_fst P _ _ #[], hr]
  · intro h es _ _
    refine ⟨_, fun w w' hr => ?_, SGood.ended (hH h)⟩
    rw [← Sem.runT_fst P _ _ #[], hr]

theorem good_endFatal (fr : Frame) (cs : List Frame) (dy : Option Dying) (m : String) (h : PlainT fr.todo) : SGood fun w => endFatal P fr cs dy m w := by
  have hraw : ∀ vs : List (Value × String), Gd P (vs.mapM fun (x : Value × String) => match panicText P true x.1 with
      | .text s => (pure (s, x.2) : Sem (ByteArray × String))
      | .address s => do pure (← withAddress s, x.2)
      | _ => unsupported (.noEntry "a fatal error during a panic whose value the report cannot show")) := fun vs => Gd.mapM_list (fun x => by
    split
    · infer_instance
    · exact Gd.bind inferInstance fun _ => inferInstance
    · infer_instance) _
  have key : ∀ x : Sem (List (ByteArray × String) × List ByteArray), Gd P x → SGood fun w => match x.run P w with
      | .ok (texts, tabs) w => dieOf fr (panicPieces texts ++ tabs) m true w
      | .halt (.unsupported u) w => .ended (.unsupported u "") w
      | .halt _ w => .ended (.stuck "the report of a panic" "") w := by
    intro x hx
    refine SGood.cong (SGood.runs (P := P) hx (K := fun a w => dieOf fr (panicPieces a.1 ++ a.2) m true w)
      (H := fun x w => match x with | .unsupported u => .ended (.unsupported u "") w | _ => .ended (.stuck "the report of a panic" "") w) (fun a => good_dieOf _ _ _ _ h) fun x w => by split <;> trivial) fun w => ?_
    cases x.run P w with
    | ok a w' => rfl
    | halt h' w' => cases h' <;> rfl
  unfold endFatal
  dsimp only
  generalize List.flatMap _ _ = chain
  refine key _ ?_
  split
  · infer_instance
  · exact Gd.bind inferInstance fun _ => Gd.bind (hraw _) fun _ => inferInstance
  · exact Gd.bind (hraw _) fun _ => inferInstance
  · infer_instance

theorem endWith_ends (w : World) (fd : Nat) (t : ByteArray) (o : Outcome) : SEnds (endWith w fd t o) := by
  unfold endWith
  dsimp only
  split
  · split <;> trivial
  · trivial
  · trivial

theorem ends_dead {x : Halt} {w : World} (h : ∀ w, ¬ Ends (.halt x w : Result α)) : (∃ v, x = .panic v) ∨ (∃ c, x = .exit c) ∨ x = .goexit ∨ (∃ m, x = .fatal m) ∨ (∃ m, x = .throw m) ∨ ∃ g, x = .unsupported (.initOrder g) := by
  cases x
  case unsupported u =>
    cases u
    case initOrder g => exact .inr (.inr (.inr (.inr (.inr ⟨g, rfl⟩))))
    all_goals exact absurd trivial (h w)
  all_goals first
    | exact absurd trivial (h w)
    | exact .inl ⟨_, rfl⟩
    | exact .inr (.inl ⟨_, rfl⟩)
    | exact .inr (.inr (.inl rfl))
    | exact .inr (.inr (.inr (.inl ⟨_, rfl⟩)))
    | exact .inr (.inr (.inr (.inr (.inl ⟨_, rfl⟩))))

end

open Go
variable {α β γ : Type} {P : Program}

theorem SGood.pairs {Q : α → Prop} {x : Sem α} (hx : Good P Q x) {K : Result α × Array Event → GStep} (hE : ∀ r es, Ends r → SEnds (K (r, es)))
    (hok : ∀ a, Q a → ∀ es, Mild es → SGood fun w => K (.ok a w, es))
    (hhalt : ∀ h es, (∀ w, ¬ Ends (.halt h w : Result α)) → ((∀ w, Heard (.halt h w : Result α)) → Mild es) → SGood fun w => K (.halt h w, es)) :
    SGood fun w => K (x.runT P w #[]) :=
  SGood.run hx (K := fun r es => K (r, es)) hE hok hhalt

theorem SEnds.after' {es : Array Event} {s : GStep} (h : SEnds s) : SEnds (GStep.after es s) := h.after
/-- A step that runs an entry, lists what it listed, and goes on by what it yielded. -/
theorem SGood.afterRun {Q : α → Prop} {x : Sem α} (hx : Good P Q x) (fn : FuncId) {K : Result α → GStep} (hE : ∀ r, Ends r → SEnds (K r)) (hu : ∀ g w, SEnds (K (.halt (.unsupported (.initOrder g)) w)))
    (hok : ∀ a, Q a → SGood fun w => K (.ok a w)) (hh : ∀ h, (∀ w, ¬ Ends (.halt h w : Result α)) → (∀ g, h ≠ .unsupported (.initOrder g)) → SGood fun w => K (.halt h w)) :
    SGood fun w => GStep.after (seen P fn (x.runT P w #[]).2) (K (x.runT P w #[]).1) := by
  refine SGood.run hx (K := fun r es => GStep.after (seen P fn es) (K r)) (fun r es h => (hE r h).after) (fun a ha es hm => SGood.after (hm.seen fn) (hok a ha)) fun h es hn hm => ?_
  by_cases hi : ∃ g, h = .unsupported (.initOrder g)
  · obtain ⟨g, rfl⟩ := hi
    exact SGood.ended fun w => (hu g w).after
  · refine SGood.after ((hm fun w => ?_).seen fn) (hh h hn fun g e => hi ⟨g, e⟩)
    rcases ends_dead (w := w) hn with ⟨v, rfl⟩ | ⟨c, rfl⟩ | rfl | ⟨m, rfl⟩ | ⟨m, rfl⟩ | ⟨g, rfl⟩ <;> first | trivial | exact absurd ⟨_, rfl⟩ hi

theorem SEnds.on {s : GStep} {τ : Tp} {d : Nat} (h : SEnds (sOn τ d s)) : SEnds s := by cases s <;> exact h
theorem SGood.orEnds {f f' : World → GStep} (h : SGood f') (e : ∀ w, f w = f' w ∨ (SEnds (f w) ∧ SEnds (f' w))) : SGood f := by
  intro w
  by_cases hE : SEnds (f' w)
  · left
    rcases e w with e | e
    · rw [e]; exact hE
    · exact e.1
  have e0 : f w = f' w := (e w).elim id fun x => absurd x.2 hE
  rcases h w with hE' | hF
  · exact absurd hE' hE
  · obtain ⟨m, h1, h2, h3⟩ := hF.loc
    refine .inr ⟨⟨m, by rw [e0]; exact h1, by rw [e0]; exact h2, fun τ d ha => ?_⟩, by rw [e0]; exact hF.mild, by rw [e0]; exact hF.kind⟩
    rw [e0, ← h3 τ d ha]
    refine (e (On w τ d)).elim id fun x => absurd ?_ hE
    have := x.2
    rw [h3 τ d ha] at this
    exact this.on

theorem GoodH.mark_enable {f : Unit → Sem β} {R : β → Prop} (h : Good P R (f ())) : GoodH P R (Go.mark .enable >>= f) := GoodH.enable h

theorem good_writeOn (fr : Frame) (d : Dying) (f : Fatal) (h : PlainT fr.todo) : SGood fun w => writeOn P fr d f w := by
  unfold writeOn
  dsimp only
  split
  · exact SGood.ended fun _ => trivial
  · rename_i piece rest _
    refine SGood.pairs (P := P) (Q := fun _ => True) (K := fun (x : Result Unit × Array Event) => match x with
      | (.ok _ w, es) => .go { frame := fr, callers := [], status := .running, dying := some { d with fatal := some { f with pieces := rest, begun := true } } } w es
      | (.halt .blocked w, _) => .go { frame := fr, callers := [], status := .blocked, dying := some { d with fatal := some f } } w #[]
      | (.halt (.unsupported u) w, _) => .ended (.unsupported u "") w
      | (.halt _ w, _) => .ended (.stuck "the report of a fatal error" "") w) ?_ ?_ ?_ ?_
    · have hw : Good P (fun _ => True) (do
          match ← sys (.write 2 piece) with
          | .int n => if n != piece.size then unsupported (.noEntry "a report that its descriptor cannot take whole")
          | .err _ => pure ()
          | _ => unsupported (.noEntry "a report that its descriptor cannot take whole") : Sem Unit) := by
        refine Good.sys _ (fun w es => trivial) fun r => ?_
        cases r
        case int n => exact Good.ite (Good.halt _) (Good.pure trivial)
        case err => exact Good.pure trivial
        all_goals exact Good.halt _
      have htail : Good P (fun _ => True) (do
          if piece.size > 65536 then unsupported (.noEntry "a report of more than 65536 bytes")
          match ← sys (.write 2 piece) with
          | .int n => if n != piece.size then unsupported (.noEntry "a report that its descriptor cannot take whole")
          | .err _ => pure ()
          | _ => unsupported (.noEntry "a report that its descriptor cannot take whole") : Sem Unit) :=
        Good.ite (Good.bind' (Good.halt _) fun _ => hw) hw
      have hon : GoodH P (fun _ => True) (do
          if f.whole then store (printLock (← program)) (.bool true) .atomic
          mark .enable
          if piece.size > 65536 then unsupported (.noEntry "a report of more than 65536 bytes")
          match ← sys (.write 2 piece) with
          | .int n => if n != piece.size then unsupported (.noEntry "a report that its descriptor cannot take whole")
          | .err _ => pure ()
          | _ => unsupported (.noEntry "a report that its descriptor cannot take whole") : Sem Unit) :=
        GoodH.ite (GoodH.bind inferInstance Dead.program fun p => GoodH.bind inferInstance (Dead.storeBool _ _ _) fun _ => GoodH.enable htail) (GoodH.enable htail)
      exact Good.ite (Good.disable (GoodH.bind inferInstance Dead.held fun b => GoodH.ite GoodH.blocked hon)) htail
    · intro r es he
      cases r with
      | ok => exact he.elim
      | halt x w => cases x <;> first | trivial | exact .inl rfl
    · intro a _ es hm
      exact SGood.go rfl (PlainG.mk' h fun _ hx => by cases hx) hm
    · intro x es hn _
      cases x
      case blocked => exact absurd trivial (hn default)
      all_goals exact SGood.ended fun _ => trivial

theorem good_die (hP : PlainP P) (fr : Frame) (d : Dying) (h : PlainT fr.todo) : SGood fun w => die P fr d w := by
  have hgo : ∀ d : Dying, SGood fun w => GStep.go { frame := fr, callers := [], status := .running, dying := some d } w := fun d => SGood.go rfl (PlainG.mk' h fun _ hx => by cases hx) mild_nil
  unfold die
  split
  · exact good_writeOn _ _ _ h
  · split
    · intro w
      left
      dsimp only
      split
      · exact .inl rfl
      · exact endWith_ends _ _ _ _
    · rename_i v mark rest _
      dsimp only
      split
      · exact hgo _
      · rename_i s _
        exact SGood.runs (P := P) (x := withAddress s) inferInstance (K := fun s w => GStep.go { frame := fr, callers := [], status := .running, dying := some { d with todo := rest, pending := mark, texts := (s, mark) :: d.texts } } w) (H := fun _ w => .ended (.stuck "report: an address" "") w) (fun a => hgo _) fun _ _ => trivial
      · rename_i t recv name _
        let K : Result Next → GStep := fun (r : Result Next) => match r with
          | .ok (.enter f args) w =>
            .go { frame := Frame.enter P f args .report, callers := [], status := .running, dying := some { d with todo := rest, pending := mark, calling := true, hand := some v } } w
          | .ok (.value (.string s)) w =>
            .go { frame := fr, callers := [], status := .running, dying := some { d with todo := rest, pending := mark, texts := (s, mark) :: d.texts } } w
          | .halt (.unsupported u) w => .ended (.unsupported u "the report of an uncaught panic") w
          | .halt (.panic v) w => endPrinting P fr v w
          | _ => .ended (.stuck "report: Error or String returned no string" "") default
        refine SGood.orEnds (f' := fun w => GStep.after (seen P fr.fn ((invoke (.fn (.method name) #[]) #[.iface t recv]).runT P w #[]).2) (K ((invoke (.fn (.method name) #[]) #[.iface t recv]).runT P w #[]).1)) (SGood.afterRun (good_invoke hP _ _) fr.fn (K := K) ?_ ?_ ?_ ?_) ?_
        · intro r he
          cases r with
          | ok => exact he.elim
          | halt x w => cases x <;> first | trivial | exact he.elim
        · exact fun _ _ => trivial
        · intro a ha
          cases a
          case enter f args => exact SGood.go rfl (PlainG.mk' (plain_enter _ _ _) fun _ hx => by cases hx) mild_nil
          case value v =>
            cases v
            case string => exact hgo _
            all_goals exact SGood.ended fun _ => trivial
          all_goals exact SGood.ended fun _ => trivial
        · intro x hn _
          cases x
          case panic v => exact good_endPrinting _ _ h
          all_goals exact SGood.ended fun _ => trivial
        · intro w
          generalize (invoke (.fn (.method name) #[]) #[.iface t recv]).runT P w #[] = x
          obtain ⟨r, es⟩ := x
          dsimp only
          cases r with
          | ok a w' =>
            cases a
            case enter f args => exact .inl rfl
            case value v =>
              cases v
              case string => exact .inl rfl
              all_goals exact .inr ⟨trivial, trivial⟩
            all_goals exact .inr ⟨trivial, trivial⟩
          | halt x w' =>
            cases x
            case panic => exact .inl rfl
            case unsupported => exact .inl rfl
            all_goals exact .inr ⟨trivial, trivial⟩
      · exact SGood.ended fun _ => trivial

end

open Go
variable {α β γ : Type} {P : Program}

theorem SGood.comm {g : Goroutine} {cs : Array CommCase} {b : Bool} {sh : CommShape} (hs : g.status = .running) (hp : PlainG g) : SGood fun w => .comm g cs b sh w :=
  fun _ => .inr ⟨⟨0, rfl, rfl, fun _ _ _ => rfl⟩, mild_nil, hs, hp⟩
theorem SGood.spawn {g c : Goroutine} : SGood fun w => .spawn g c w :=
  fun _ => .inr ⟨⟨0, rfl, rfl, fun _ _ _ => rfl⟩, mild_nil, trivial⟩
theorem SGood.coro {g : Goroutine} {c : Nat} (hs : g.status = .running) (hp : PlainG g) : SGood fun w => .coroswitch g c true w :=
  fun _ => .inr ⟨⟨0, rfl, rfl, fun _ _ _ => rfl⟩, mild_nil, rfl, hs, hp⟩

theorem SGood.itec {c : Prop} [Decidable c] {A B : World → GStep} (hA : SGood A) (hB : SGood B) : SGood fun w => if c then A w else B w := by
  by_cases h : c
  · simp only [h, if_true]; exact hA
  · simp only [h, if_false]; exact hB

theorem good_callDeferred (hP : PlainP P) (fr : Frame) (cs : List Frame) (dy : Option Dying) (d : Deferred) (h : PlainT fr.todo) (h' : PlainC cs) : SGood fun w => callDeferred P fr cs dy d w := by
  have hgo : ∀ fr' : Frame, PlainT fr'.todo → ∀ cs' : List Frame, PlainC cs' → SGood fun w => GStep.go { frame := fr', callers := cs', status := .running, dying := dy } w := fun fr' h cs' h' => SGood.go rfl (PlainG.mk' h h') mild_nil
  unfold callDeferred
  refine SGood.itec (SGood.ended fun _ => trivial) ?_
  refine SGood.byRun (good_invoke hP d.target d.args) ?_ ?_ ?_
  · intro w es r hr he
    simp only [hr]
    cases r with
    | ok => exact he.elim
    | halt x w => cases x <;> first | trivial | exact he.elim | exact .inl rfl | exact .inr (.inl rfl)
  · intro a ha es hm
    have hin : ∀ f' : World → GStep, SGood f' → SGood fun w => GStep.after (seen P fr.fn es) (f' w) := fun f' hf => SGood.after (hm.seen _) hf
    cases a
    case enter f args => refine ⟨_, fun w w' hr => by simp only [hr]; rfl, ?_⟩; exact hin _ (hgo _ (plain_enter _ _ _) _ (PlainC.cons h h'))
    case round => refine ⟨_, fun w w' hr => by simp only [hr]; rfl, ?_⟩; exact hin _ (hgo _ (plain_round _ _ _ _ _ _) _ (PlainC.cons h h'))
    case row => refine ⟨_, fun w w' hr => by simp only [hr]; rfl, ?_⟩; exact hin _ (hgo _ (plain_row ha _ _) _ (PlainC.cons h h'))
    case recover =>
      refine ⟨_, fun w w' hr => by simp only [hr]; rfl, ?_⟩
      refine hin _ ?_
      cases hm : fr.mode <;> cases ht : tryRecover fr cs
      case returning.some x => exact hgo _ h _ (plain_tryRecover h' ht)
      all_goals exact hgo _ h _ h'
    case coroswitch c e =>
      obtain rfl : e = true := ha
      refine ⟨_, fun w w' hr => by simp only [hr]; rfl, ?_⟩
      exact hin _ (SGood.coro rfl (PlainG.mk' h h'))
    all_goals first
      | exact ha.elim
      | (refine ⟨_, fun w w' hr => by simp only [hr]; rfl, ?_⟩; exact hin _ (hgo _ h _ h'))
  · intro x es hn hm
    have hin : (∀ w, Heard (.halt x w : Result Next)) → ∀ f' : World → GStep, SGood f' → SGood fun w => GStep.after (seen P fr.fn es) (f' w) := fun hh f' hf => SGood.after ((hm hh).seen _) hf
    rcases ends_dead (w := default) hn with ⟨v, rfl⟩ | ⟨c, rfl⟩ | rfl | ⟨m, rfl⟩ | ⟨m, rfl⟩ | ⟨g, rfl⟩
    · refine ⟨_, fun w w' hr => by simp only [hr]; rfl, ?_⟩; exact hin (fun _ => trivial) _ (hgo _ (by rw [raise_todo]; exact h) _ h')
    · refine ⟨_, fun w w' hr => by simp only [hr]; rfl, ?_⟩; exact SGood.ended fun _ => trivial
    · refine ⟨_, fun w w' hr => by simp only [hr]; rfl, ?_⟩; exact hin (fun _ => trivial) _ (hgo _ (by rw [raise_todo]; exact h) _ h')
    · refine ⟨_, fun w w' hr => by simp only [hr]; rfl, ?_⟩; exact hin (fun _ => trivial) _ (good_endFatal _ _ _ _ h)
    · refine ⟨_, fun w w' hr => by simp only [hr]; rfl, ?_⟩; exact hin (fun _ => trivial) _ (good_endThrow _ _ h)
    · refine ⟨_, fun w w' hr => by simp only [hr]; rfl, ?_⟩; exact SGood.ended fun _ => trivial

instance gd_results (fn : Func) (tmps : Array Value) : Gd P (results fn tmps) := by
  unfold results
  refine Gd.bind (Gd.mapM_arr (fun x => ?_) _) fun _ => inferInstance
  cases x
  · infer_instance
  · exact Gd.bind inferInstance fun _ => inferInstance

theorem good_unwind (hP : PlainP P) (fr : Frame) (cs : List Frame) (dy : Option Dying) (h : PlainT fr.todo) (h' : PlainC cs) : SGood fun w => unwind P true fr cs dy w := by
  unfold unwind
  split
  · rename_i block _ ds _
    refine SGood.afterRun (inferInstance : Gd P (Instr.takeDeferred block)).good fr.fn (K := fun r => match r with
      | .ok calls w => .go { frame := { fr with defers := calls ++ ds }, callers := cs, status := .running, dying := dy } w
      | .halt _ w => .ended (.stuck "the deferred calls of a range-over-func loop have been taken" (fr.pos P)) w) ?_ ?_ ?_ ?_
    · intro r he
      cases r with
      | ok => exact he.elim
      | halt => trivial
    · exact fun _ _ => trivial
    · exact fun a _ => SGood.go rfl (PlainG.mk' h h') mild_nil
    · exact fun _ _ _ => SGood.ended fun _ => trivial
  · exact good_callDeferred hP _ _ _ _ h h'
  · split
    · exact SGood.ended fun _ => trivial
    · rename_i chain _
      split
      · exact SGood.ended fun _ => trivial
      · split
        · exact SGood.go rfl (PlainG.mk' (by rw [raise_todo]; exact h'.head) h'.tail) mild_nil
        · split
          · split
            · exact SGood.ended fun _ => .inr (.inr rfl)
            · refine SGood.cong (SGood.runs (P := P) (x := reportChain chain false) inferInstance (K := fun todo w => GStep.go { frame := fr, callers := [], status := .running, dying := some { todo := todo, texts := [], calling := false, pending := "", runtimeError := isRuntimeError P (chain.head?.map (·.v)) } } w)
                (H := fun x w => (match x with | .unsupported u => .ended (.unsupported u "") w | _ => .ended (.stuck "the report of a panic" "") w : GStep)) (fun a => SGood.go rfl (PlainG.mk' h fun _ hx => by cases hx) mild_nil) fun x w => by split <;> trivial) fun w => ?_
              cases (reportChain chain false).run P w with
              | ok a w' => rfl
              | halt h' w' => cases h' <;> rfl
          · split
            · exact good_endPrinting _ _ h
            · exact SGood.ended fun _ => trivial
    · split
      · exact good_doReturn _ _ _ _ h h'
      · rename_i fn _
        let K : Result Value → GStep := fun r => match r with
          | .ok v w => doReturn P true fr cs dy v w
          | .halt (.stuck s) w => .ended (.stuck s (fr.pos P)) w
          | .halt _ w => .ended (.stuck "return: the result variables cannot be read" (fr.pos P)) w
        refine SGood.orEnds (f' := fun w => GStep.after (seen P fr.fn ((results fn fr.tmps).runT P w #[]).2) (K ((results fn fr.tmps).runT P w #[]).1))
          (SGood.afterRun (inferInstance : Gd P (results fn fr.tmps)).good fr.fn (K := K) ?_ ?_ ?_ ?_) ?_
        · intro r he
          cases r with
          | ok => exact he.elim
          | halt x => cases x <;> trivial
        · exact fun _ _ => trivial
        · exact fun a _ => good_doReturn _ _ _ _ h h'
        · intro x _ _
          cases x <;> exact SGood.ended fun _ => trivial
        · intro w
          generalize (results fn fr.tmps).runT P w #[] = x
          obtain ⟨r, es⟩ := x
          cases r with
          | ok a w' => exact .inl rfl
          | halt x w' => cases x <;> exact .inl rfl

end

open Go
variable {α β γ : Type} {P : Program}

theorem good_apply (fr : Frame) (cs : List Frame) (dy : Option Dying) (s : Sem Next) (hs : Good P Rk s) (h : PlainT fr.todo) (h' : PlainC cs) : SGood fun w => stepG.apply P true fr cs dy s w := by
  have hgo : ∀ fr' : Frame, PlainT fr'.todo → ∀ cs' : List Frame, PlainC cs' → SGood fun w => GStep.go { frame := fr', callers := cs', status := .running, dying := dy } w := fun fr' h cs' h' => SGood.go rfl (PlainG.mk' h h') mild_nil
  have hmild : ∀ es : Array Event, Mild es → Mild (seen P fr.fn (if (fr.kind == .early) = true then #[] else es)) := fun es he => by
    split
    · exact mild_nil.seen _
    · exact he.seen _
  have hin : ∀ f' : World → GStep, SGood f' → ∀ es, Mild es → SGood fun w => GStep.after (seen P fr.fn (if (fr.kind == .early) = true then #[] else es)) (f' w) := fun f' hf es he => SGood.after (hmild es he) hf
  unfold stepG.apply
  simp only [if_true]
  refine SGood.byRun hs ?_ ?_ ?_
  · intro w es r hr he
    simp only [hr]
    cases r with
    | ok => exact he.elim
    | halt x w' =>
      cases x
      case blocked => exact .inl rfl
      case waiting => exact .inr (.inl rfl)
      case stuck => trivial
      case unsupported u =>
        cases u
        case initOrder => exact he.elim
        all_goals trivial
      all_goals exact he.elim
  · intro a ha es hm
    cases a
    case value v => refine ⟨_, fun w w' hr => by simp only [hr]; rfl, ?_⟩; exact hin _ (hgo _ (plain_finish h _) _ h') _ hm
    case skip => refine ⟨_, fun w w' hr => by simp only [hr]; rfl, ?_⟩; exact hin _ (hgo _ (plain_finish h _) _ h') _ hm
    case enter f args => refine ⟨_, fun w w' hr => by simp only [hr]; rfl, ?_⟩; exact hin _ (hgo _ (plain_enter _ _ _) _ (PlainC.cons h h')) _ hm
    case row row args =>
      refine ⟨_, fun w w' hr => by simp only [hr]; rfl, ?_⟩; refine hin _ ?_ _ hm
      split
      · rename_i e
        refine hgo _ ?_ _ h'
        rw [e] at h
        exact PlainT.cons ha h.tail
      · exact hgo _ (plain_row ha _ _) _ (PlainC.cons h h')
    case round l f tmps assign body => refine ⟨_, fun w w' hr => by simp only [hr]; rfl, ?_⟩; exact hin _ (hgo _ (plain_round _ _ _ _ _ _) _ (PlainC.cons h h')) _ hm
    case defer d => refine ⟨_, fun w w' hr => by simp only [hr]; rfl, ?_⟩; exact hin _ (hgo _ (plain_finish (fr := { fr with defers := d :: fr.defers }) h _) _ h') _ hm
    case recover =>
      refine ⟨_, fun w w' hr => by simp only [hr]; rfl, ?_⟩; refine hin _ ?_ _ hm
      split
      · rename_i v callers e
        refine hgo _ (plain_finish h _) _ ?_
        split at e
        · split at e
          · exact plain_tryRecover h' e
          · exact plain_tryRecoverLoop h' e
        · exact plain_tryRecover h' e
      · exact hgo _ (plain_finish h _) _ h'
    case comm cases b sh => refine ⟨_, fun w w' hr => by simp only [hr]; rfl, ?_⟩; exact hin _ (SGood.comm rfl (PlainG.mk' h h')) _ hm
    case coroswitch c e =>
      obtain rfl : e = true := ha
      refine ⟨_, fun w w' hr => by simp only [hr]; rfl, ?_⟩; exact hin _ (SGood.coro rfl (PlainG.mk' h h')) _ hm
    case spawn d =>
      refine ⟨_, fun w w' hr => by simp only [hr]; rfl, ?_⟩; refine hin _ ?_ _ hm
      exact SGood.itec (good_endThrow _ _ h) SGood.spawn
    all_goals exact ha.elim
  · intro x es hn hm
    rcases ends_dead (w := default) hn with ⟨v, rfl⟩ | ⟨c, rfl⟩ | rfl | ⟨m, rfl⟩ | ⟨m, rfl⟩ | ⟨g, rfl⟩
    · refine ⟨_, fun w w' hr => by simp only [hr]; rfl, ?_⟩; exact hin _ (hgo _ (by rw [raise_todo]; exact h) _ h') _ (hm fun _ => trivial)
    · refine ⟨_, fun w w' hr => by simp only [hr]; rfl, ?_⟩; refine hin _ ?_ _ (hm fun _ => trivial); exact SGood.ended fun _ => trivial
    · refine ⟨_, fun w w' hr => by simp only [hr]; rfl, ?_⟩; exact hin _ (hgo _ (by rw [raise_todo]; exact h) _ h') _ (hm fun _ => trivial)
    · refine ⟨_, fun w w' hr => by simp only [hr]; rfl, ?_⟩; exact hin _ (good_endFatal _ _ _ _ h) _ (hm fun _ => trivial)
    · refine ⟨_, fun w w' hr => by simp only [hr]; rfl, ?_⟩; exact hin _ (good_endThrow _ _ h) _ (hm fun _ => trivial)
    · refine ⟨_, fun w w' hr => by simp only [hr]; rfl, ?_⟩; exact hin _ (good_early _ _ _ _ h h') _ mild_nil

theorem next_piece : ∃ e, Extern.next "runtime.print$piece" = some e ∧ ∀ args, Good P Rk (e args) := by
  refine ⟨_, rfl, fun args => ?_⟩
  exact good_piece _ _ _

theorem good_exec (hP : PlainP P) (fr : Frame) (cs : List Frame) (dy : Option Dying) (h : PlainT fr.todo) (h' : PlainC cs) : SGood fun w => stepG.exec P true true fr cs dy w := by
  have hgo : ∀ fr' : Frame, PlainT fr'.todo → ∀ cs' : List Frame, PlainC cs' → SGood fun w => GStep.go { frame := fr', callers := cs', status := .running, dying := dy } w := fun fr' h cs' h' => SGood.go rfl (PlainG.mk' h h') mild_nil
  have hleave : ∀ jump : Option Code, SGood fun w => (match fr.roundOf with
      | none => if jump matches none | some .ret then GStep.go { frame := { fr with mode := .returning }, callers := cs, status := .running, dying := dy } w else .ended (.stuck "exit, goto: no such block or label" (fr.pos P)) w
      | some l =>
        let (r, es) := (Instr.endRound l jump).runT P w #[]
        GStep.after (seen P fr.fn es) <| match r with
        | .ok v w => doReturn P true fr cs dy v w
        | .halt _ w => .ended (.stuck "range over a function: no such loop" (fr.pos P)) w) := by
    intro jump
    split
    · exact SGood.itec (hgo { fr with mode := .returning } h _ h') (SGood.ended fun _ => trivial)
    · rename_i l _
      exact SGood.afterRun (inferInstance : Gd P (Instr.endRound l jump)).good fr.fn (K := fun r => match r with
        | .ok v w => doReturn P true fr cs dy v w
        | .halt _ w => .ended (.stuck "range over a function: no such loop" (fr.pos P)) w) (fun r he => by cases r with
          | ok => exact he.elim
          | halt => trivial) (fun _ _ => trivial) (fun a _ => good_doReturn _ _ _ _ h h') (fun _ _ _ => SGood.ended fun _ => trivial)
  unfold stepG.exec
  dsimp only
  split
  · exact hleave none
  · exact hleave (some .ret)
  · rename_i e; rw [e] at h; refine hgo { fr with todo := _ } ?_ _ h'; exact h.tail
  · rename_i e; rw [e] at h; refine hgo { fr with todo := _ } ?_ _ h'; exact h.tail
  · rename_i e; rw [e] at h; refine hgo { fr with todo := _ } ?_ _ h'; exact h.tail
  · rename_i e; rw [e] at h; refine hgo { fr with todo := _ } ?_ _ h'; exact h.tail
  · rename_i e; rw [e] at h; refine hgo { fr with todo := _ } ?_ _ h'; exact (PlainT.cons trivial (PlainT.cons trivial h.tail))
  · rename_i e
    rw [e] at h
    split
    · refine hgo { fr with todo := _ } ?_ _ h'; exact (PlainT.cons trivial h.tail)
    · exact SGood.ended fun _ => trivial
  · rename_i e; rw [e] at h; refine hgo { fr with todo := _ } ?_ _ h'; exact (PlainT.cons trivial (PlainT.cons trivial h.tail))
  · rename_i e; rw [e] at h; refine hgo { fr with todo := _ } ?_ _ h'; exact (PlainT.cons trivial (PlainT.cons trivial h.tail))
  · rename_i e; rw [e] at h; refine hgo { fr with todo := _ } ?_ _ h'; exact (PlainT.cons trivial (PlainT.cons trivial h.tail))
  · rename_i e; rw [e] at h; refine hgo { fr with todo := _ } ?_ _ h'; exact (PlainT.cons trivial (PlainT.cons trivial h.tail))
  · rename_i id k e
    rw [e] at h
    cases hx : exitTo id k with
    | none => exact hleave (some (.exit id))
    | some k' => refine hgo { fr with todo := _ } ?_ _ h'; exact (plain_exitTo h.tail hx)
  · rename_i l k e
    rw [e] at h
    cases hx : gotoIn l k with
    | none => exact hleave (some (.goto l))
    | some k' => refine hgo { fr with todo := _ } ?_ _ h'; exact (plain_gotoIn h.tail hx)
  · -- range over a function
    rename_i f params assign body k e
    rw [e] at h
    refine SGood.afterRun (inferInstance : Gd P (Instr.enterLoop fr.fn fr.tmps params assign body fr.roundOf)).good fr.fn (K := fun (r : Result (Nat × List Deferred)) => match r with
      | .ok (l, mark) w => stepG.apply P true { fr with todo := .inRangeFunc l :: k, defers := mark ++ fr.defers } cs dy (do let d ← resolve ({ fr with todo := .inRangeFunc l :: k, defers := mark ++ fr.defers } : Frame).eval { callee := .value f, args := #[.const (.func (.yield l) #[] #[])], argTypes := #[] } 0; invoke d.target d.args) w
      | .halt _ w => .ended (.stuck "range over a function: no such loop" (fr.pos P)) w) (fun r he => by cases r with
          | ok => exact he.elim
          | halt => trivial) (fun _ _ => trivial) ?_ (fun _ _ _ => SGood.ended fun _ => trivial)
    rintro ⟨l, mark⟩ _
    refine good_apply _ _ _ _ (Gd.next inferInstance fun d => good_invoke hP _ _) ?_ h'
    exact PlainT.cons trivial h.tail
  · exact SGood.ended fun _ => trivial
  · refine good_apply _ _ _ _ (Gd.unit ?_) h h'
    cases fr.roundOf with
    | none => exact (inferInstance : Gd P (stuck _))
    | some l => exact (inferInstance : Gd P (Instr.beginRound l))
  · rename_i l k e
    rw [e] at h
    refine SGood.orEnds (f' := fun w => GStep.after (seen P fr.fn ((Instr.endLoop l).runT P w #[]).2) ((fun (r : Result (Option Code)) => (match r with
      | .ok jump w => .go { frame := { fr with todo := (jump.map Item.code).toList ++ k }, callers := cs, status := .running, dying := dy } w
      | .halt (.panic v) w => .go { frame := fr.raise [{ v, recovered := false }], callers := cs, status := .running, dying := dy } w
      | .halt _ w => .ended (.stuck "range over a function: no such loop" (fr.pos P)) w : GStep)) ((Instr.endLoop l).runT P w #[]).1)) (SGood.afterRun (inferInstance : Gd P (Instr.endLoop l)).good fr.fn
      (K := fun (r : Result (Option Code)) => (match r with
      | .ok jump w => .go { frame := { fr with todo := (jump.map Item.code).toList ++ k }, callers := cs, status := .running, dying := dy } w
      | .halt (.panic v) w => .go { frame := fr.raise [{ v, recovered := false }], callers := cs, status := .running, dying := dy } w
      | .halt _ w => .ended (.stuck "range over a function: no such loop" (fr.pos P)) w : GStep)) ?_ ?_ ?_ ?_) ?_
    · intro r he
      cases r with
      | ok => exact he.elim
      | halt x => cases x <;> first | trivial | exact he.elim
    · exact fun _ _ => trivial
    · intro jump _
      refine hgo { fr with todo := _ } (PlainT.append ?_ h.tail) _ h'
      cases jump with
      | none => exact PlainT.nil
      | some c => exact PlainT.cons trivial PlainT.nil
    · intro x _ _
      cases x
      case panic v => refine hgo _ ?_ _ h'; rw [raise_todo, e]; exact h
      all_goals exact SGood.ended fun _ => trivial
    · intro w
      generalize (Instr.endLoop l).runT P w #[] = x
      obtain ⟨r, es⟩ := x
      cases r with
      | ok a w' => exact .inl rfl
      | halt x w' => cases x <;> exact .inl rfl
  · exact SGood.ended fun _ => trivial
  · rename_i e; rw [e] at h; exact h.head.elim
  · rename_i row args k e
    have hrow : row = "runtime.print$piece" := by rw [e] at h; exact h.head
    obtain ⟨ee, he, hg⟩ := next_piece (P := P)
    rw [hrow, he]
    exact good_apply _ _ _ _ (hg _) h h'
  · rename_i id ops draw k e
    rw [e] at h
    have hr : ∀ l, PlainT (.inRegion ops l :: k) := fun l => PlainT.cons (show PlainI (.inRegion ops l) from trivial) h.tail
    refine SGood.itec (hgo { fr with todo := _ } (hr _) _ h') ?_
    exact SGood.cong (SGood.runs (P := P) (x := choose (.order fr.fn id)) inferInstance (K := fun t w => GStep.go { frame := { fr with todo := .inRegion ops (Region.schedule (P.follows .mixedOrders) ops t) :: k }, callers := cs, status := .running, dying := dy } w)
      (H := fun _ w => .ended (.stuck "order" (fr.pos P)) w) (fun t => hgo { fr with todo := _ } (hr _) _ h') fun _ _ => trivial) fun w => rfl
  · rename_i e
    rw [e] at h
    refine hgo { fr with todo := _ } ?_ _ h'; exact h.tail
  · refine SGood.itec ?_ (hgo _ (plain_finish h _) _ h')
    unfold stepG.oper
    split
    · exact SGood.ended fun _ => trivial
    · split
      · exact good_apply _ _ _ _ (Gd.next inferInstance fun d => Gd.unit inferInstance) h h'
      · exact good_apply _ _ _ _ (good_execOp hP _ _) h h'

theorem good_stepG (hP : PlainP P) (g : Goroutine) (h : PlainG g) : SGood fun w => stepG P true g w := by
  obtain ⟨fr, cs, st, dy, of⟩ := g
  obtain ⟨h, h'⟩ := h
  unfold stepG
  dsimp only
  split
  · exact good_die hP _ _ h
  · exact good_exec hP _ _ _ h h'
  · exact good_unwind hP _ _ _ h h'

end Go.Proofs.YtpenbkfchgeafaaGreatDoor
