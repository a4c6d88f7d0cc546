/- More rules beside leavers: blocks, loops, operations that are not wanted, statements one after the other. -/
import Derived.Test.YtkhmooemgjichaaHo
import Derived.Test.YtkhmooemgjichaaHn
import Derived.Conc.Own5
namespace Go.Proofs.Ytkhmooemgjichaa

section
open Go Go.Conc
variable {P : Program} {w : World} {Q : Goroutine → World → Prop} {b : Frame} {a : Act} {k : List Item} {cs : List Frame} {ops : Array Oper} {i : Nat} {rest : List Nat} {o : Oper}

/-- Steps of its own that turn the world. -/
theorem Reach.turn (hP : PlainP P) {g g' : Goroutine} {w' : World} (hg : PlainG g) (hr : g.status = .running) (hr' : g'.status = .running) (h : ∀ τ d, Steps P (solo g (On w τ d)) (solo g' (On w' τ d))) (hQ : PlainG g' → Reach P g' w' Q) (ht : w'.tape = w.tape) : Reach P g w Q := fun d gs sl T q B h0 hL hp => by
  have hS : SoloTo P (fun x u => x = g' ∧ Same w' u) g w := fun τ => by
    obtain ⟨n, e⟩ := h τ 0
    exact ⟨n, g', On w' τ 0, e, hr', rfl, τ, 0, rfl⟩
  obtain ⟨N, gs', x, u, sl', T', q', B', e, k0, ⟨_, kp, rfl, τ, dd, rfl⟩, k2, k3, k4⟩ := Reach.lonely hP (fun x w' τ d h => by obtain ⟨h1, τ', d', rfl⟩ := h; exact ⟨h1, τ, d, rfl⟩) hg hr hS d gs sl T q B h0 hL hp
  have hw : On w' τ dd = w'.at dd := by
    have : τ = w'.tape := k4.trans ht.symm
    rw [this]; rfl
  rw [hw] at e
  obtain ⟨M, gs'', g'', w'', sl'', T'', q'', B'', e', l0, l1, l2, l3, l4⟩ := hQ kp dd gs' sl' T' q' B' k0 k2 k3
  exact ⟨N + M, gs'', g'', w'', sl'', T'', q'', B'', by rw [runNT_add, e]; exact e', l0, l1, l2, l3, l4.trans ht⟩
theorem Reach.opv (hP : PlainP P) (v : Value) (w' : World) (ht : w'.tape = w.tape) (hk : PlainT k) (hcs : PlainC cs) (ho : ops[i]? = some o) (hw : Region.wanted o (yielded ops a.tmps) = true) (hb : b.kind ≠ .early)
    (hr : ∀ τ d, (execOp a.eval o).run P (On w τ d) = .ok (.value v) (On w' τ d)) (hQ : Reach P (G (b.at (a.put o.dst v) (.inRegion ops rest :: k)) cs) w' Q) : Reach P (G (b.at a (.inRegion ops (i :: rest) :: k)) cs) w Q :=
  Reach.turn hP (plain_at (plain_region hk) hcs) rfl (g' := G (b.at (a.put o.dst v) (.inRegion ops rest :: k)) cs) rfl
    (fun τ d => ⟨1, by rw [runN, step, stepT_solo rfl, runT_solo_go (stepG_value (main := true) ho hw hb (hr τ d))]; rfl⟩) (fun _ => hQ) ht
theorem Reach.opn (hP : PlainP P) (w' : World) (ht : w'.tape = w.tape) (hk : PlainT k) (hcs : PlainC cs) (ho : ops[i]? = some o) (hw : Region.wanted o (yielded ops a.tmps) = true) (hb : b.kind ≠ .early)
    (hr : ∀ τ d, (execOp a.eval o).run P (On w τ d) = .ok .skip (On w' τ d)) (hQ : Reach P (G (b.at (a.put o.dst undef) (.inRegion ops rest :: k)) cs) w' Q) : Reach P (G (b.at a (.inRegion ops (i :: rest) :: k)) cs) w Q :=
  Reach.turn hP (plain_at (plain_region hk) hcs) rfl (g' := G (b.at (a.put o.dst undef) (.inRegion ops rest :: k)) cs) rfl
    (fun τ d => ⟨1, by rw [runN, step, stepT_solo rfl, runT_solo_go (stepG_none (main := true) ho hw hb (hr τ d))]; rfl⟩) (fun _ => hQ) ht
/-- An operation that enters a function. -/
theorem Reach.enter (hP : PlainP P) {f : FuncId} {args : Array Value} (hk : PlainT k) (hcs : PlainC cs) (ho : ops[i]? = some o) (hw : Region.wanted o (yielded ops a.tmps) = true)
    (hr : ∀ w, (execOp a.eval o).run P w = .ok (.enter f args) w) (hQ : PlainC (b.at a (.inRegion ops (i :: rest) :: k) :: cs) → Reach P (G (Frame.enter P f args .normal) (b.at a (.inRegion ops (i :: rest) :: k) :: cs)) w Q) :
    Reach P (G (b.at a (.inRegion ops (i :: rest) :: k)) cs) w Q := by
  have hentry : ∀ w, step P (lone (b.at a (.inRegion ops (i :: rest) :: k)) cs w) = .next (lone (Frame.enter P f args .normal) (b.at a (.inRegion ops (i :: rest) :: k) :: cs) w) := fun w => by
    have hg := stepG_op (P := P) (b := b) (k := k) (cs := cs) (w := w) (rest := rest) ho hw
    exact step_lone_go (by rw [hg]; simp [stepG.apply, hr, Frame.at])
  have hcs' : PlainC (b.at a (.inRegion ops (i :: rest) :: k) :: cs) := PlainC.cons (plain_region hk) hcs
  exact Reach.still hP (plain_at (plain_region hk) hcs) rfl (g' := G (Frame.enter P f args .normal) (b.at a (.inRegion ops (i :: rest) :: k) :: cs)) rfl (fun τ d => Steps.one (hentry _)) fun _ => hQ hcs'
theorem enter_at {f : FuncId} {fn : Func} {c : Code} (args : Array Value) (hf : P.funcs[f]? = some fn) (hb : fn.body = some c) :
    Frame.enter P f args .normal = Frame.at { (default : Frame) with fn := f, kind := .normal } { tmps := args ++ Array.replicate (fn.ntmps - args.size) undef, defers := [] } [.code c] := by
  simp [Frame.enter, Frame.at, hf, hb]
/-- The way out. -/
theorem Reach.ret (hP : PlainP P) (hk : PlainT k) (hcs : PlainC cs) (hQ : Reach P (G { b.at a (.code .ret :: k) with mode := .returning } cs) w Q) : Reach P (G (b.at a (.code .ret :: k)) cs) w Q :=
  Reach.step1 hP (plain_at (plain_code hk) hcs) rfl rfl (fun _ => stepG_ret') fun _ => hQ
theorem Reach.cond (hP : PlainP P) {c : Operand} {x y : Code} (t : Bool) (ht : a.eval c = .bool t) (hk : PlainT k) (hcs : PlainC cs) (hQ : Reach P (G (b.at a (.code (if t then x else y) :: k)) cs) w Q) : Reach P (G (b.at a (.code (.cond c x y) :: k)) cs) w Q :=
  Reach.step1 hP (plain_at (plain_code hk) hcs) rfl rfl (fun _ => stepG_cond ht) fun _ => hQ
theorem Reach.skip (hP : PlainP P) (hk : PlainT k) (hcs : PlainC cs) (hQ : Reach P (G (b.at a k) cs) w Q) : Reach P (G (b.at a (.code .skip :: k)) cs) w Q :=
  Reach.step1 hP (plain_at (plain_code hk) hcs) rfl rfl (fun _ => stepG_skip) fun _ => hQ

end

open Go Go.Conc
variable {P : Program} {w : World} {Q : Goroutine → World → Prop} {b : Frame} {a : Act} {k : List Item} {cs : List Frame} {ops : Array Oper} {i : Nat} {rest : List Nat} {o : Oper}

theorem on_cell (w : World) (τ : Tp) (d : Nat) (p : Addr) : (On w τ d).cell? p = w.cell? p := rfl
theorem plain_item {x : Item} (h : PlainI x) (hk : PlainT k) : PlainT (x :: k) := PlainT.cons h hk
theorem Reach.unwanted (hP : PlainP P) (hk : PlainT k) (hcs : PlainC cs) (ho : ops[i]? = some o) (hw : Region.wanted o (yielded ops a.tmps) = false) (hQ : Reach P (G (b.at (a.put o.dst undef) (.inRegion ops rest :: k)) cs) w Q) : Reach P (G (b.at a (.inRegion ops (i :: rest) :: k)) cs) w Q :=
  Reach.step1 hP (plain_at (plain_region hk) hcs) rfl rfl (fun _ => stepG_unwanted ho hw) fun _ => hQ
theorem Reach.block (hP : PlainP P) {id : Nat} {c : Code} (hk : PlainT k) (hcs : PlainC cs) (hQ : Reach P (G (b.at a (.code c :: .inBlock id :: k)) cs) w Q) : Reach P (G (b.at a (.code (.block id c) :: k)) cs) w Q :=
  Reach.step1 hP (plain_at (plain_code hk) hcs) rfl rfl (fun _ => stepG_block) fun _ => hQ
theorem Reach.inBlock (hP : PlainP P) {id : Nat} (hk : PlainT (.inBlock id :: k)) (hcs : PlainC cs) (hQ : Reach P (G (b.at a k) cs) w Q) : Reach P (G (b.at a (.inBlock id :: k)) cs) w Q :=
  Reach.step1 hP (plain_at hk hcs) rfl rfl (fun _ => stepG_inBlock) fun _ => hQ
theorem Reach.exit (hP : PlainP P) {id : Nat} {k' : List Item} (h : exitTo id k = some k') (hk : PlainT k) (hcs : PlainC cs) (hQ : Reach P (G (b.at a k') cs) w Q) : Reach P (G (b.at a (.code (.exit id) :: k)) cs) w Q :=
  Reach.step1 hP (plain_at (plain_code hk) hcs) rfl rfl (fun _ => stepG_exit h) fun _ => hQ
/-- A statement, then the next. -/
theorem Reach.seqThen (hP : PlainP P) {x y : Code} (R : Act → World → Prop) (hk : PlainT k) (hcs : PlainC cs) (hx : Reach P (G (b.at a (.code x :: .code y :: k)) cs) w fun g' w' => ∃ a', g' = G (b.at a' (.code y :: k)) cs ∧ R a' w')
    (hy : ∀ a' w', R a' w' → Reach P (G (b.at a' (.code y :: k)) cs) w' Q) : Reach P (G (b.at a (.code (.seq x y) :: k)) cs) w Q :=
  Reach.seq hP hk hcs (hx.trans fun g' w' h => by obtain ⟨a', rfl, hR⟩ := h; exact hy a' w' hR)
/-- A loop, by a measure. -/
theorem Reach.loop (hP : PlainP P) {c : Code} {n : Nat} (I : Nat → Act → World → Prop) (hk : PlainT k) (hcs : PlainC cs)
    (h : ∀ n a w, I n a w → PlainT (.inLoop c :: k) → (∀ m a' w', m < n → I m a' w' → Reach P (G (b.at a' (.inLoop c :: k)) cs) w' Q) → Reach P (G (b.at a (.code c :: .inLoop c :: k)) cs) w Q) (h0 : I n a w) :
    Reach P (G (b.at a (.code (.loop c) :: k)) cs) w Q := by
  have hk' : PlainT (.inLoop c :: k) := PlainT.cons (show PlainI (.inLoop c) from trivial) hk
  have key : ∀ n a w, I n a w → Reach P (G (b.at a (.inLoop c :: k)) cs) w Q := by
    intro n
    induction n using Nat.strongRecOn with
    | ind n ih =>
      intro a w hi
      exact Reach.step1 hP (plain_at hk' hcs) rfl rfl (fun _ => stepG_inLoop) fun _ => h n a w hi hk' fun m a' w' hm hi' => ih m hm a' w' hi'
  exact Reach.step1 hP (plain_at (plain_code hk) hcs) rfl rfl (fun _ => stepG_loop) fun _ => h n a w h0 hk' fun m a' w' _ hi' => key m a' w' hi'

end Go.Proofs.Ytkhmooemgjichaa
