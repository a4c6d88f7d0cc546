/- A goroutine's own step goes by the coming answers alone: each part of it. -/
import Derived.Test.YtkhmooemgjichaaGf
import Derived.Conc.Listed
namespace Go.Proofs.Ytkhmooemgjichaa

section
section
open Go
variable {α β : Type} {P : Program}

/-- A word of the library's is said to all. -/
def MS (e : Event) : Prop := (∃ m, e.loc = .mark m) → e.sync = true
theorem ms_cell (a : Addr) (b c : Bool) : MS ⟨.cell a, b, c⟩ := fun ⟨_, h⟩ => by cases h
theorem ms_push {es : Array Event} {e : Event} (h : ∀ x ∈ es, MS x) (he : MS e) : ∀ x ∈ es.push e, MS x := fun x hx => by
  rcases Array.mem_push.1 hx with hx | rfl
  · exact h x hx
  · exact he
theorem ms_cells {es : Array Event} {l : List Addr} {b c : Bool} (h : ∀ x ∈ es, MS x) : ∀ x ∈ es ++ l.toArray.map (fun a => (⟨.cell a, b, c⟩ : Event)), MS x := fun x hx => by
  rcases Array.mem_append.1 hx with hx | hx
  · exact h x hx
  · obtain ⟨a, _, rfl⟩ := Array.mem_map.1 hx
    exact ms_cell _ _ _
theorem runT_ms (x : Sem α) : ∀ (w : World) (es : Array Event), (∀ e ∈ es, MS e) → ∀ e ∈ (x.runT P w es).2, MS e := by
  induction x with
  | pure a => exact fun w es he => he
  | load m a k ih =>
    intro w es he
    unfold Sem.runT
    split
    · exact ih _ _ _ (ms_push he (ms_cell _ _ _))
    · split
      · exact ih _ _ _ (ms_cells he)
      · exact he
  | store m a v k ih =>
    intro w es he
    cases v
    all_goals
      first
        | exact he
        | (simp only [Sem.runT]
           split
           · split
             · exact he
             · exact ih _ _ (ms_push he (ms_cell _ _ _))
           · split
             · exact ih _ _ (ms_cells he)
             · exact he)
  | new o k ih => exact fun w es he => ih _ _ _ he
  | shape r k ih => exact fun w es he => ih _ _ _ he
  | freeze a n k ih => exact fun w es he => ih _ _ he
  | frozen a k ih => exact fun w es he => ih _ _ _ he
  | getObj r k ih =>
    intro w es he
    unfold Sem.runT
    split
    · exact he
    · exact ih _ _ _ (ms_push he fun ⟨_, h⟩ => by cases h)
    · exact he
  | setObj r o k ih =>
    intro w es he
    unfold Sem.runT
    split
    · exact he
    · exact ih _ _ (ms_push he fun ⟨_, h⟩ => by cases h)
    · exact he
  | choose q k ih =>
    intro w es he
    unfold Sem.runT
    split
    · exact ih _ _ _ he
    · exact ih _ _ _ he
  | sys c k ih => exact fun w es he => ih _ _ _ (ms_push he fun ⟨_, h⟩ => by cases h)
  | program k ih => exact fun w es he => ih _ _ _ he
  | mark m k ih => exact fun w es he => ih _ _ (ms_push he fun _ => rfl)
  | halt x => exact fun w es he => he

/-- What a list turns of its goroutine's deafness: nothing; and what is kept of it turns as much. -/
def Mild (es : Array Event) : Prop := (∀ d, deafBehind d es = d) ∧ ∀ e ∈ es, MS e
theorem mild_nil : Mild #[] := ⟨fun _ => rfl, by simp⟩
theorem deaf_append (d : Nat) (a b : Array Event) : deafBehind d (a ++ b) = deafBehind (deafBehind d a) b := by
  unfold deafBehind
  rw [Array.foldl_append]
theorem Mild.app {a b : Array Event} (h : Mild a) (h' : Mild b) : Mild (a ++ b) :=
  ⟨fun d => by rw [deaf_append, h.1, h'.1], fun e he => (Array.mem_append.1 he).elim (h.2 e) (h'.2 e)⟩

theorem seenStep_mark (q : FuncId → Bool) (b : Bool) (kept : Array Event) {e : Event} {f : FuncId} (h : e.loc = .mark (.extern f)) : Conc.seenStep q (b, kept) e = (q f, kept) := by
  unfold Conc.seenStep
  dsimp only
  rw [h]
theorem seenStep_else (q : FuncId → Bool) (b : Bool) (kept : Array Event) {e : Event} (h : ∀ f, e.loc ≠ .mark (.extern f)) : Conc.seenStep q (b, kept) e = (b, if b && !e.sync then kept else kept.push e) := by
  unfold Conc.seenStep
  dsimp only
  split
  · rename_i f hf; exact absurd hf (h f)
  · rfl

theorem seen_deaf (fn : FuncId) (es : Array Event) (h : ∀ e ∈ es, MS e) (d : Nat) : deafBehind d (seen P fn es) = deafBehind d es := by
  have key : ∀ (l : List Event) (q : Bool) (kept : Array Event), (∀ e ∈ l, MS e) →
      deafBehind d (l.foldl (Conc.seenStep fun f => (P.funcs[f]?).any (·.norace)) (q, kept)).2 = deafBehind d (kept ++ l.toArray) := by
    intro l
    induction l with
    | nil => intro q kept _; simp
    | cons e l ih =>
      intro q kept hl
      have e1 : kept ++ (e :: l).toArray = kept.push e ++ l.toArray := by simp
      rw [List.foldl_cons, e1]
      have hl' : ∀ x ∈ l, MS x := fun x hx => hl x (by simp [hx])
      have drop : e.loc ≠ .mark .disable → e.loc ≠ .mark .enable → deafBehind d (kept.push e ++ l.toArray) = deafBehind d (kept ++ l.toArray) := fun h1 h2 => by
        rw [deaf_append, deaf_push _ _ h1 h2, ← deaf_append]
      by_cases hf : ∃ f, e.loc = .mark (.extern f)
      · obtain ⟨f, hf⟩ := hf
        rw [seenStep_mark _ _ _ hf, ih _ _ hl', drop (by rw [hf]; simp) (by rw [hf]; simp)]
      · rw [seenStep_else _ _ _ (fun f h => hf ⟨f, h⟩), ih _ _ hl']
        split
        · rename_i hq
          have hs : e.sync = false := by simp at hq; exact hq.2
          rw [drop]
          · intro hm
            have := hl e (by simp) ⟨_, hm⟩
            rw [hs] at this; cases this
          · intro hm
            have := hl e (by simp) ⟨_, hm⟩
            rw [hs] at this; cases this
        · rfl
  rw [Conc.seen_def, key es.toList _ #[] (fun e he => h e (Array.mem_toList_iff.1 he))]
  simp

theorem seen_sub (fn : FuncId) (es : Array Event) : ∀ e ∈ seen P fn es, e ∈ es := by
  have key : ∀ (l : List Event) (q : Bool) (kept : Array Event),
      ∀ e ∈ (l.foldl (Conc.seenStep fun f => (P.funcs[f]?).any (·.norace)) (q, kept)).2, e ∈ kept ∨ e ∈ l := by
    intro l
    induction l with
    | nil => intro q kept e he; exact .inl he
    | cons y l ih =>
      intro q kept e he
      rw [List.foldl_cons] at he
      by_cases hf : ∃ f, y.loc = .mark (.extern f)
      · obtain ⟨f, hf⟩ := hf
        rw [seenStep_mark _ _ _ hf] at he
        exact (ih _ _ e he).imp id fun h => by simp [h]
      · rw [seenStep_else _ _ _ (fun f h => hf ⟨f, h⟩)] at he
        rcases ih _ _ e he with h | h
        · split at h
          · exact .inl h
          · rcases Array.mem_push.1 h with h | rfl
            · exact .inl h
            · exact .inr (by simp)
        · exact .inr (by simp [h])
  intro e he
  rw [Conc.seen_def] at he
  rcases key _ _ _ e he with h | h
  · simp at h
  · exact Array.mem_toList_iff.1 h

theorem Mild.seen {es : Array Event} (h : Mild es) (fn : FuncId) : Mild (seen P fn es) :=
  ⟨fun d => by rw [seen_deaf fn es h.2, h.1], fun e he => h.2 e (seen_sub fn es e he)⟩

end

open Go
variable {α β : Type} {P : Program}

def sw : GStep → World
  | .go _ w _ | .comm _ _ _ _ w _ | .spawn _ _ w _ | .count _ w _ | .timer _ _ w _ | .alone _ _ w _ | .newcoro _ _ _ w _ | .coroswitch _ _ _ w _ | .collect _ w _ | .watch _ w _ | .ended _ w _ => w

def sOn (τ : Tp) (d : Nat) : GStep → GStep
  | .go g w es => .go g (On w τ d) es
  | .comm g cs b sh w es => .comm g cs b sh (On w τ d) es
  | .spawn g c w es => .spawn g c (On w τ d) es
  | .count g w es => .count g (On w τ d) es
  | .timer g op w es => .timer g op (On w τ d) es
  | .alone g on w es => .alone g on (On w τ d) es
  | .newcoro g c dd w es => .newcoro g c dd (On w τ d) es
  | .coroswitch g c e w es => .coroswitch g c e (On w τ d) es
  | .collect g w es => .collect g (On w τ d) es
  | .watch g w es => .watch g (On w τ d) es
  | .ended o w es => .ended o (On w τ d) es

def PlainI : Item → Prop
  | .call .. => False
  | .extern row _ => row = "runtime.print$piece"
  | _ => True
def PlainT (l : List Item) : Prop := ∀ it ∈ l, PlainI it
def PlainG (g : Goroutine) : Prop := PlainT g.frame.todo ∧ ∀ fr ∈ g.callers, PlainT fr.todo

/-- The run ends, or goroutine 0 goes on no more. -/
def SEnds : GStep → Prop
  | .ended .. => True
  | .go g _ _ => g.status = .blocked ∨ g.status = .waiting ∨ g.status = .finished
  | _ => False

def SKind : GStep → Prop
  | .go g _ _ => g.status = .running ∧ PlainG g
  | .comm g _ _ _ _ _ => g.status = .running ∧ PlainG g
  | .coroswitch g _ e _ _ => e = true ∧ g.status = .running ∧ PlainG g
  | .spawn .. | .newcoro .. => True
  | _ => False

structure SFits (f : World → GStep) (w : World) : Prop where
  loc : ∃ m, (sw (f w)).tape = w.tape ∧ (sw (f w)).drawn = w.drawn + m ∧ ∀ τ d, Agr τ d w m → f (On w τ d) = sOn τ (d + m) (f w)
  mild : Mild (f w).es
  kind : SKind (f w)

def SGood (f : World → GStep) : Prop := ∀ w, SEnds (f w) ∨ SFits f w

theorem SGood.ended {f : World → GStep} (h : ∀ w, SEnds (f w)) : SGood f := fun w => .inl (h w)
theorem SGood.go {g : Goroutine} {es : Array Event} (hs : g.status = .running) (hp : PlainG g) (hm : Mild es) : SGood fun w => .go g w es :=
  fun _ => .inr ⟨⟨0, rfl, rfl, fun _ _ _ => rfl⟩, hm, hs, hp⟩

theorem es_after (es : Array Event) (s : GStep) : (GStep.after es s).es = es ++ s.es := by cases s <;> rfl
theorem sw_after (es : Array Event) (s : GStep) : sw (GStep.after es s) = sw s := by cases s <;> rfl
theorem sOn_after (es : Array Event) (s : GStep) (τ : Tp) (d : Nat) : sOn τ d (GStep.after es s) = GStep.after es (sOn τ d s) := by cases s <;> rfl
theorem SEnds.after {es : Array Event} {s : GStep} (h : SEnds s) : SEnds (GStep.after es s) := by cases s <;> exact h
theorem SKind.after {es : Array Event} {s : GStep} (h : SKind s) : SKind (GStep.after es s) := by cases s <;> exact h
theorem SGood.after {es : Array Event} (hm : Mild es) {f : World → GStep} (h : SGood f) : SGood fun w => GStep.after es (f w) := by
  intro w
  rcases h w with hE | hF
  · exact .inl hE.after
  · refine .inr ⟨?_, ?_, hF.kind.after⟩
    · obtain ⟨m, h1, h2, h3⟩ := hF.loc
      exact ⟨m, by rw [sw_after]; exact h1, by rw [sw_after]; exact h2, fun τ d ha => by rw [h3 τ d ha, sOn_after]⟩
    · rw [es_after]
      exact hm.app hF.mild
/-- A step that does not touch the world before it has been decided. -/
theorem SGood.cong {f f' : World → GStep} (h : SGood f') (e : ∀ w, f w = f' w) : SGood f := by
  have : f = f' := funext e
  rw [this]; exact h

theorem SGood.run {Q : α → Prop} {x : Sem α} (hx : Good P Q x) {K : Result α → Array Event → GStep} (hE : ∀ r es, Ends r → SEnds (K r es))
    (hok : ∀ a, Q a → ∀ es, Mild es → SGood fun w => K (.ok a w) es)
    (hhalt : ∀ h es, (∀ w, ¬ Ends (.halt h w : Result α)) → ((∀ w, Heard (.halt h w : Result α)) → Mild es) → SGood fun w => K (.halt h w) es) :
    SGood fun w => K (x.runT P w #[]).1 (x.runT P w #[]).2 := by
  intro w
  have hms := runT_ms (P := P) x w #[] (by simp)
  rcases hx w #[] with h | hF
  · exact .inl (hE _ _ h)
  obtain ⟨m, h1, h2, h3⟩ := hF.loc
  have hbal := hF.bal
  have hout := hF.out
  rcases hr : x.runT P w #[] with ⟨r, es⟩
  rw [hr] at h1 h2 h3 hbal hout hms
  by_cases hends : Ends r
  · left; dsimp only; rw [hr]; exact hE _ _ hends
  cases r with
  | ok a w' =>
    have hmild : Mild es := ⟨fun d => hbal trivial d, hms⟩
    rcases hok a (hout a w' rfl) es hmild w' with hE' | hF'
    · left; dsimp only; rw [hr]; exact hE'
    · right
      obtain ⟨n, g1, g2, g3⟩ := hF'.loc
      refine ⟨⟨m + n, ?_, ?_, fun τ d ha => ?_⟩, ?_, ?_⟩
      · rw [hr]; exact g1.trans h1
      · rw [hr]; dsimp only at g2 ⊢; rw [g2, show w'.drawn = w.drawn + m from h2]; omega
      · rw [h3 τ d ha.fst, hr]
        have := g3 τ (d + m) (Agr.snd ha h1 h2)
        rw [← Nat.add_assoc]
        exact this
      · rw [hr]; exact hF'.mild
      · rw [hr]; exact hF'.kind
  | halt h w' =>
    have hne : ∀ w, ¬ Ends (.halt h w : Result α) := fun w x => hends (by cases h <;> first | exact x | (rename_i u; cases u <;> exact x))
    have hmild : (∀ w, Heard (.halt h w : Result α)) → Mild es := fun hh => ⟨fun d => hbal (hh w') d, hms⟩
    rcases hhalt h es hne hmild w' with hE' | hF'
    · left; dsimp only; rw [hr]; exact hE'
    · right
      obtain ⟨n, g1, g2, g3⟩ := hF'.loc
      refine ⟨⟨m + n, ?_, ?_, fun τ d ha => ?_⟩, ?_, ?_⟩
      · rw [hr]; exact g1.trans h1
      · rw [hr]; dsimp only at g2 ⊢; rw [g2, show w'.drawn = w.drawn + m from h2]; omega
      · rw [h3 τ d ha.fst, hr]
        have := g3 τ (d + m) (Agr.snd ha h1 h2)
        rw [← Nat.add_assoc]
        exact this
      · rw [hr]; exact hF'.mild
      · rw [hr]; exact hF'.kind

end

open Go
variable {α β : Type} {P : Program}

theorem PlainT.tail {x : Item} {k : List Item} (h : PlainT (x :: k)) : PlainT k := fun it hi => h it (by simp [hi])
theorem PlainT.head {x : Item} {k : List Item} (h : PlainT (x :: k)) : PlainI x := h x (by simp)
theorem PlainT.cons {x : Item} {k : List Item} (hx : PlainI x) (h : PlainT k) : PlainT (x :: k) := fun it hi => by
  rcases List.mem_cons.1 hi with rfl | hi
  · exact hx
  · exact h it hi
theorem PlainT.nil : PlainT [] := fun it hi => by cases hi
theorem PlainT.append {a b : List Item} (h : PlainT a) (h' : PlainT b) : PlainT (a ++ b) := fun it hi => (List.mem_append.1 hi).elim (h it) (h' it)

theorem plain_finish {fr : Frame} (h : PlainT fr.todo) (v : Value) : PlainT (fr.finish v).todo := by
  unfold Frame.finish
  split
  · rename_i e; rw [e] at h; exact PlainT.cons trivial h.tail
  · rename_i e; rw [e] at h; exact PlainT.cons trivial h.tail
  · rename_i e; rw [e] at h; exact h.tail
  · rename_i e; rw [e] at h; exact h.head.elim
  · rename_i e; rw [e] at h; exact h.tail
  · exact h
theorem raise_todo (fr : Frame) (vs : List PanicEntry) : (fr.raise vs).todo = fr.todo := by unfold Frame.raise; split <;> rfl
theorem plain_exitTo {id : Nat} : ∀ {k k' : List Item}, PlainT k → exitTo id k = some k' → PlainT k' := by
  intro k
  induction k with
  | nil => intro k' _ e; simp [exitTo] at e
  | cons x k ih =>
    intro k' h e
    cases x
    case inBlock id' =>
      simp only [exitTo] at e
      split at e
      · rw [← Option.some.inj e]; exact h.tail
      · exact ih h.tail e
    all_goals exact ih h.tail (by simpa [exitTo] using e)
theorem plain_gotoIn {l : Nat} : ∀ {k k' : List Item}, PlainT k → gotoIn l k = some k' → PlainT k' := by
  intro k
  induction k with
  | nil => intro k' _ e; simp [gotoIn] at e
  | cons x k ih =>
    intro k' h e
    cases x
    case inScope body =>
      simp only [gotoIn] at e
      split at e
      · rw [← Option.some.inj e]; exact PlainT.cons trivial (PlainT.cons trivial h.tail)
      · exact ih h.tail e
    all_goals exact ih h.tail (by simpa [gotoIn] using e)
theorem plain_enter (f : FuncId) (args : Array Value) (k : CallKind) : PlainT (Frame.enter P f args k).todo := PlainT.cons trivial PlainT.nil
theorem plain_round (l : Nat) (f : FuncId) (t : Array Value) (a b : Code) (k : CallKind) : PlainT (Frame.round l f t a b k).todo := PlainT.cons trivial (PlainT.cons trivial (PlainT.cons trivial PlainT.nil))
theorem plain_row {row : String} (h : row = "runtime.print$piece") (args : Array Value) (k : CallKind) : PlainT (Frame.ofRow P row args k).todo := PlainT.cons h PlainT.nil

def PlainC (cs : List Frame) : Prop := ∀ fr ∈ cs, PlainT fr.todo
theorem PlainC.cons {fr : Frame} {cs : List Frame} (h : PlainT fr.todo) (h' : PlainC cs) : PlainC (fr :: cs) := fun x hx => by
  rcases List.mem_cons.1 hx with rfl | hx
  · exact h
  · exact h' x hx
theorem PlainC.tail {fr : Frame} {cs : List Frame} (h : PlainC (fr :: cs)) : PlainC cs := fun x hx => h x (by simp [hx])
theorem PlainC.head {fr : Frame} {cs : List Frame} (h : PlainC (fr :: cs)) : PlainT fr.todo := h fr (by simp)

theorem plain_tryRecover {fr : Frame} {cs cs' : List Frame} {v : Value} : PlainC cs → tryRecover fr cs = some (v, cs') → PlainC cs' := by
  induction cs generalizing fr v cs' with
  | nil =>
    intro h e
    unfold tryRecover at e
    split at e
    · rename_i he; cases he
    · rename_i he; cases he
    · cases e
  | cons c cs ih =>
    intro h e
    unfold tryRecover at e
    split at e
    · rename_i hk he
      cases he
      split at e
      · cases e
        exact PlainC.cons h.head h.tail
      · cases e
    · rename_i hk he
      cases he
      cases ht : tryRecover c cs with
      | none => rw [ht] at e; cases e
      | some x =>
        obtain ⟨v', rest⟩ := x
        rw [ht] at e
        cases e
        exact PlainC.cons h.head (ih h.tail ht)
    · cases e
theorem plain_tryRecoverLoop {cs cs' : List Frame} {v : Value} : ∀ {l : Nat}, PlainC cs → tryRecoverLoop l cs = some (v, cs') → PlainC cs' := by
  induction cs generalizing v cs' with
  | nil => intro l h e; simp [tryRecoverLoop] at e
  | cons c cs ih =>
    intro l h e
    unfold tryRecoverLoop at e
    have key : ∀ x, Option.map (fun (y : Value × List Frame) => (y.1, c :: y.2)) x = some (v, cs') → (∀ v' r, x = some (v', r) → PlainC r) → PlainC cs' := by
      intro x hx hr
      cases x with
      | none => cases hx
      | some y =>
        obtain ⟨v', r⟩ := y
        cases hx
        exact PlainC.cons h.head (hr v' r rfl)
    refine key _ e fun v' r hr => ?_
    split at hr
    · exact ih h.tail hr
    · split at hr
      · exact plain_tryRecover h.tail hr
      · exact ih h.tail hr
    · exact ih h.tail hr

theorem found_on (w : World) (τ : Tp) (d : Nat) : ∀ (n : Nat) (f : FuncId), P.found (On w τ d) n f = P.found w n f := by
  intro n
  induction n with
  | zero => intro f; rfl
  | succ n ih =>
    intro f
    unfold Program.found
    have hs : (On w τ d).shape? = w.shape? := rfl
    have hh : (On w τ d).heap = w.heap := rfl
    simp only [hs, hh, ih]
theorem brought_on (w : World) (τ : Tp) (d : Nat) : ∀ (n : Nat) (t s : List FuncId), P.brought (On w τ d) n t s = P.brought w n t s := by
  intro n
  induction n with
  | zero => intro t s; unfold Program.brought; rfl
  | succ n ih =>
    intro t s
    cases t with
    | nil => unfold Program.brought; rfl
    | cons f t =>
      unfold Program.brought
      have hh : (On w τ d).heap = w.heap := rfl
      simp only [hh, ih]

end Go.Proofs.Ytkhmooemgjichaa
