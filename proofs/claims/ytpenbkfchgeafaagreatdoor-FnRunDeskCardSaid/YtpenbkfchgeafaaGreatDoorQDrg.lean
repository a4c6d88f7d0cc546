/- A range over an iterator that keeps its state in a box of its own. -/
import Derived.Test.YtpenbkfchgeafaaGreatDoorProg
import Derived.RangeFuncNested
namespace Go.Proofs.YtpenbkfchgeafaaGreatDoor
open Go Go.RowKit

/-- The iterator's word: it turns the box b between two rounds, and nothing else of the old. -/
def SeqBox {α : Type} (F : Fence) (n : Nat) (P : Program) (gf : Nat) (lb : Array Value) (encs : α → Array Value) (b : Nat) (Kp : World → World → Prop) (S Sp : List α → Prop) (N : Nat) (w : World) : Prop :=
  ∀ (l : Nat) (J Jx : List α → World → Prop) (W : World), Below w.heap.size w W → (∀ s A v, J s A → J s (A.setCell ⟨b, 0, none⟩ v)) →
    (∀ pre x A, J pre A → pre.length < N → YieldAt F (n - 1) P l (encs x) A fun e A' => (e = .returned (.bool true) ∧ J (pre ++ [x]) A' ∧ Kp A A') ∨ (e = .returned (.bool false) ∧ Jx (pre ++ [x]) A')) →
    J [] W → CallsIn F n P gf (#[.func (.yield l) #[] #[]] ++ lb) W fun e W' => (∃ v, e = .returned v) ∧ ((∃ xs, S xs ∧ J xs W') ∨ ∃ pre, Sp pre ∧ Jx pre W')

/-- A round's end: it goes on, or it returns. -/
def boxPost {α : Type} (B : Nat) (Kp : World → World → Prop) (I Ix : List α → World → Prop) (xs : List α) (W : World) : Exit → Act → World → Prop
  | .normal, _, W' => KeepsFrom B W W' ∧ Kp W W' ∧ I xs W'
  | .ret, _, W' => KeepsFrom B W W' ∧ Ix xs W'
  | _, _, _ => False

/-- The two blocks of the loop's own book-keeping: the record at l, the rounds' deferred calls at D. -/
def Book (D : Nat) (R : Loop) (W : World) : Prop := W.heap[D + 1]? = some (.loop R) ∧ W.heap[D]? = some (.deferred (some []))
theorem Book.setCell {D : Nat} {R : Loop} {W : World} (h : Book D R W) (a : Addr) (v : Value) : Book D R (W.setCell a v) :=
  ⟨(KeepsOthers.setCell W a v).same _ _ h.1 rfl, (KeepsOthers.setCell W a v).same _ _ h.2 rfl⟩
theorem Book.keeps {D B : Nat} {R : Loop} {W W' : World} (h : Book D R W) (hB : B ≤ D) (k : KeepsFrom B W W') : Book D R W' :=
  ⟨k.same _ _ (by omega) h.1 rfl, k.same _ _ hB h.2 rfl⟩
theorem Book.put {D : Nat} {R R' : Loop} {W : World} (h : Book D R W) : Book D R' (W.putObj (D + 1) (.loop R')) :=
  ⟨World.putObj_heap_same (Array.getElem?_eq_some_iff.1 h.1).1, (World.putObj_heap_other (by omega)).trans h.2⟩
theorem Book.made (w : World) (R : Loop) : Book w.heap.size R ((w.alloc (.deferred (some []))).alloc (.loop R)) := by
  constructor
  · have := World.alloc_heap_new (w.alloc (.deferred (some []))) (.loop R)
    rwa [World.size_alloc] at this
  · exact (Below.heap_alloc _ _ _ (by simp)).trans (World.alloc_heap_new w _)

variable {F : Fence} {n : Nat} {P : Program}

theorem wpIn_range_box {α : Type} {g : Operand} {ps : Array Tmp} {assign body : Code} {Q : Exit → Act → World → Prop} {a : Act} {w w0 : World} {gf : Nat} {lb : Array Value} {encs : α → Array Value} {b N : Nat} {Kp : World → World → Prop} {S Sp : List α → Prop}
    (hro : F.round = none) (h1 : 1 ≤ n) (hg : a.eval g = .func (.func gf) #[] lb) (hF : F.fn gf) (eg : ∀ args w, (callFunc gf args).run P w = .ok (.enter gf args) w)
    (hseq : SeqBox F (n - 1) P gf lb encs b Kp S Sp N w0) (hb0 : Below w0.heap.size w0 w) (hKt : ∀ {A B C : World}, Kp A B → Kp B C → Kp A C) (hKb : ∀ (W : World) (l : Nat) (o : Obj), w.heap.size ≤ l → Kp W (W.putObj l o))
    (hps : ∀ x, (encs x).size = ps.size) (I Ix : List α → World → Prop) (hI : OwnFrom w.heap.size I) (hIx : OwnFrom w.heap.size Ix) (hIb : ∀ s A v, I s A → I s (A.setCell ⟨b, 0, none⟩ v)) (h0 : I [] w) (a₁ : α → Act)
    (hassign : ∀ (l : Nat) (x : α) (W : World) (K : Act → World → Prop), K (a₁ x) W → assign.wpIn (F.inRound l) (n - 1 - 1) P (Exit.then K (fun _ _ _ => False)) { tmps := (ps.zip (encs x)).foldl (fun t (p, v) => t.setIfInBounds p v) a.tmps, defers := [] } W)
    (hbody : ∀ (l : Nat) (pre : List α) (x : α) (W : World), I pre W → pre.length < N → body.wpIn (F.inRound l) (n - 1 - 1) P (boxPost w.heap.size Kp I Ix (pre ++ [x]) W) (a₁ x) W)
    (hdone : ∀ (D : Nat) (xs : List α) (W : World), w.heap.size ≤ D → S xs → I xs W → W.heap[D]? = some (.deferred (some [])) → Q .normal { a with defers := { target := .collected D, args := #[] } :: a.defers } W)
    (hstop : ∀ (D : Nat) (pre : List α) (W : World), w.heap.size ≤ D → Sp pre → Ix pre W → W.heap[D]? = some (.deferred (some [])) → Code.ret.wpIn F n P Q { a with defers := { target := .collected D, args := #[] } :: a.defers } W) :
    (Code.rangeFunc g ps assign body).wpIn F n P Q a w := by
  refine wpIn_rangeFunc fun fn hfn => ?_
  rw [hro]
  obtain ⟨R, hR⟩ : ∃ R : LoopState → Option Code → Loop, R = fun st pe => { state := st, pending := pe, fn, tmps := a.tmps, params := ps, assign, body, defers := w.heap.size } := ⟨_, rfl⟩
  have k1 := Book.made w (R .ready none)
  have z1 : ((w.alloc (.deferred (some []))).alloc (.loop (R .ready none))).heap.size = w.heap.size + 2 := by simp
  have i1 : I [] ((w.alloc (.deferred (some []))).alloc (.loop (R .ready none))) := hI.alloc _ (hI.alloc _ h0)
  have b1 : Below w0.heap.size w0 ((w.alloc (.deferred (some []))).alloc (.loop (R .ready none))) := hb0.trans ((((Below.refl _ w).alloc (Nat.le_refl _) _).alloc (by simp) _).mono hb0.size)
  have e1 := run_enterLoop_outer (P := P) (w := w) fn a.tmps ps assign body
  have eR : ({ state := .ready, pending := none, fn, tmps := a.tmps, params := ps, assign, body, defers := w.heap.size } : Loop) = R .ready none := by rw [hR]
  rw [eR] at e1
  generalize (w.alloc (.deferred (some []))).alloc (.loop (R .ready none)) = W1 at *
  refine ⟨w.heap.size + 1, [{ target := .collected w.heap.size, args := #[] }], W1, { target := .fn (.func gf) lb, args := #[.func (.yield (w.heap.size + 1)) #[] #[]] }, W1, gf, #[.func (.yield (w.heap.size + 1)) #[] #[]] ++ lb, W1, e1, ?_, ?_, ?_, fun _ => h1, ?_⟩
  · simp only [resolve, hg]
    simp [go_sem]
  · intro f' hf'
    simp [Target.leads] at hf'
    subst hf'
    exact hF
  · simp [invoke, go_sem, eg]
  refine (hseq (w.heap.size + 1) (fun pre W => I pre W ∧ Book w.heap.size (R .ready none) W) (fun pre W => Ix pre W ∧ Book w.heap.size (R .done (some .ret)) W) W1 b1 (fun s A v h => ⟨hIb s A v h.1, h.2.setCell _ _⟩) ?_ ⟨i1, k1⟩).mono ?_
  · rintro pre x W ⟨hi, hk⟩ hlen
    have hy := run_yield (P := P) (args := encs x) hk.1 (by rw [hR]; exact hps x)
    have hlt := (Array.getElem?_eq_some_iff.1 hk.1).1
    rw [hR] at hy
    refine ⟨fn, _, assign, body, hy, roundIn_of_wpIn hfn (hassign _ x W _ ⟨_, run_beginRound hk.1 (by rw [hR]), ?_⟩)⟩
    have k2 : Book w.heap.size { R .ready none with state := .busy } (W.putObj (w.heap.size + 1) (.loop { R .ready none with state := .busy })) := hk.put
    refine wpIn_mono (hbody _ pre x _ (hI.putObj _ hi (by omega) hk.1 rfl) hlen) ?_
    intro e a3 W3 hp
    cases e with
    | normal =>
      obtain ⟨hk3, hp3, hi3⟩ := hp
      have k3 := k2.keeps (Nat.le_refl _) hk3
      have hr := run_endRound (P := P) none k3.1
      have k4 : Book w.heap.size (R .ready none) (W3.putObj (w.heap.size + 1) (.loop (R .ready none))) := k3.put
      have es : ({ ({ R .ready none with state := LoopState.busy } : Loop) with state := if (none : Option Code).isNone then .ready else .done, pending := none } : Loop) = R .ready none := by rw [hR]; rfl
      rw [es] at hr
      exact ⟨_, _, hr, .inl ⟨rfl, ⟨hI.putObj _ hi3 (by omega) k3.1 rfl, k4⟩, hKt (hKb _ _ _ (by omega)) (hKt hp3 (hKb _ _ _ (by omega)))⟩⟩
    | ret =>
      obtain ⟨hk3, hi3⟩ := hp
      have k3 := k2.keeps (Nat.le_refl _) hk3
      have hr := run_endRound (P := P) (some .ret) k3.1
      have k4 : Book w.heap.size (R .done (some .ret)) (W3.putObj (w.heap.size + 1) (.loop (R .done (some .ret)))) := k3.put
      have es : ({ ({ R .ready none with state := LoopState.busy } : Loop) with state := if (some Code.ret).isNone then .ready else .done, pending := some .ret } : Loop) = R .done (some .ret) := by rw [hR]; rfl
      rw [es] at hr
      exact ⟨_, _, hr, .inr ⟨rfl, hIx.putObj _ hi3 (by omega) k3.1 rfl, k4⟩⟩
    | exit id => exact hp.elim
    | goto t => exact hp.elim
    | panic c => exact hp.elim
    | outgrown => exact hp.elim
  · rintro e W2 ⟨⟨v, rfl⟩, ⟨xs, hS, hi, hk⟩ | ⟨pre, hp, hi, hk⟩⟩
    · have hr := run_endLoop (P := P) hk.1 (by rw [hR]; simp)
      have ep : (R .ready none).pending = none := by rw [hR]
      rw [ep] at hr
      exact ⟨none, _, hr, hdone _ xs _ (Nat.le_refl _) hS (hI.putObj _ hi (by omega) hk.1 rfl) ((World.putObj_heap_other (by omega)).trans hk.2)⟩
    · have hr := run_endLoop (P := P) hk.1 (by rw [hR]; simp)
      have ep : (R .done (some .ret)).pending = some .ret := by rw [hR]
      rw [ep] at hr
      exact ⟨some .ret, _, hr, hstop _ pre _ (Nat.le_refl _) hp (hIx.putObj _ hi (by omega) hk.1 rfl) ((World.putObj_heap_other (by omega)).trans hk.2)⟩
end Go.Proofs.YtpenbkfchgeafaaGreatDoor
