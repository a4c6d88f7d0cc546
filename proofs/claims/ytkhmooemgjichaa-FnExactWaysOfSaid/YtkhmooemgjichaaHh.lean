/- A SENDER THAT ONLY READS, AND GOROUTINE 0 RECEIVING: from the go statement to the last word heard. -/
import Derived.Test.YtkhmooemgjichaaHg
namespace Go.Proofs.Ytkhmooemgjichaa
open Go Go.Conc
open Go.ConcN (sumTo upd sumTo_upd upd_ne upd_same)
variable {P : Program} {c : Nat} {W : World} {z : Value} {Fin : Goroutine → Prop}

theorem phA_run {k : Nat} : ∀ (vs : List Value) (M nA nB : Nat) (gs : Array Goroutine) (w : World) (sl : Option (Nat × Nat)) (T : Trace) (q : Nat → Nat) (B : Nat), nA + nB + sumTo gs.size q = M →
    PhA P c W z Fin k vs nA nB gs w T q B → Done P c W Fin gs.size (crowd gs w sl) T := by
  intro vs
  induction vs with
  | nil =>
    intro M
    induction M using Nat.strongRecOn with
    | ind M ih =>
      intro nA nB gs w sl T q B hM h
      obtain ⟨gs', w', sl', ops, q', B', hst, hsz, h'⟩ := phA_step (sl := sl) h
      refine Done.step hst ?_
      rw [← hsz]
      rcases h' with ⟨nA', nB', hA, hlt⟩ | ⟨v, vs', _, _, e, _⟩ | ⟨_, nA', hC⟩
      · rw [← hsz] at hlt hM
        exact ih (nA' + nB' + sumTo gs'.size q') (by omega) nA' nB' gs' w' sl' _ q' B' rfl hA
      · cases e
      · exact phC_run _ nA' gs' w' sl' _ q' B' rfl hC
  | cons v vs ihv =>
    intro M
    induction M using Nat.strongRecOn with
    | ind M ih =>
      intro nA nB gs w sl T q B hM h
      obtain ⟨gs', w', sl', ops, q', B', hst, hsz, h'⟩ := phA_step (sl := sl) h
      refine Done.step hst ?_
      rw [← hsz]
      rcases h' with ⟨nA', nB', hA, hlt⟩ | ⟨v', vs', nA', nB', e, hA⟩ | ⟨e, _⟩
      · rw [← hsz] at hlt hM
        exact ih (nA' + nB' + sumTo gs'.size q') (by omega) nA' nB' gs' w' sl' _ q' B' rfl hA
      · obtain ⟨rfl, rfl⟩ := List.cons.inj e
        exact ihv _ nA' nB' gs' w' sl' _ q' B' rfl hA
      · cases e

/-- ████ FROM THE go STATEMENT, BESIDE OTHERS THAT ONLY LEAVE. ████ -/
theorem pipe {vs : List Value} : ∀ (M : Nat) (gs : Array Goroutine) (w : World) (sl : Option (Nat × Nat)) (T : Trace) (q : Nat → Nat) (B : Nat) (a a' child : Goroutine) (es : Array Event) (s : Nat), sumTo gs.size q = M →
    gs[0]? = some a → a.status = .running → Leavers P T gs q → Past (fun _ => False) B T → Aside c W w → w.heap[c]? = some (.chan 0 #[] false s s false) →
    (∀ w, Aside c W w → stepG P true a w = .spawn a' child w es) → (∀ e ∈ es, EvP e) → Rcv P c W z Fin vs a' → Snd P c W vs child → Done P c W Fin (gs.size + 1) (crowd gs w sl) T := by
  intro M
  induction M using Nat.strongRecOn with
  | ind M ih =>
    intro gs w sl T q B a a' child es s hM h0 ha hL hP hkeep hchan hgo hes hR hS
    have hlt0 : 0 < gs.size := (Array.getElem?_eq_some_iff.1 h0).1
    have haw : ∀ x ∈ gs, awake x := by
      intro x hx
      obtain ⟨i, hi, rfl⟩ := Array.mem_iff_getElem.1 hx
      rcases Nat.eq_zero_or_pos i with rfl | hpos
      · have : gs[0] = a := by simpa [Array.getElem?_eq_getElem hi] using h0
        rw [this]; exact awake_of (.inl ha)
      · exact awake_of ((hL.old i _ hpos (Array.getElem?_eq_getElem hi)).status.elim .inl fun x => .inr (.inr x))
    obtain ⟨i, x, d, sl', hi, hx, hst⟩ := crowd_pick (P := P) (w := w) (sl := sl) haw ⟨0, a, h0, ha⟩
    have hkeep1 : Aside c W (w.at d) := aside_at hkeep d
    rcases Nat.eq_zero_or_pos i with rfl | hpos
    · obtain rfl : x = a := by rw [h0] at hi; exact (Option.some.inj hi).symm
      have hrun := runT_crowd_spawn (P := P) (sl := sl') (i := 0) h0 (show stepG P (0 == 0) x (w.at d) = _ from hgo _ hkeep1)
      obtain ⟨ho, hr, hdf⟩ := evP_ops (i := 0) (fn := x.frame.fn) (pos := x.frame.place) hes
      obtain ⟨B₁, hB₁, p1⟩ := Past.own0 hP ho (hdf T)
      have hpush : ((MemOp.ofEvents 0 x.frame.fn x.frame.place es).push { g := 0, fn := x.frame.fn, pos := x.frame.place, act := .go gs.size } |>.push { g := gs.size, fn := child.frame.fn, pos := x.frame.place, act := .start }) =
          MemOp.ofEvents 0 x.frame.fn x.frame.place es ++ #[{ g := 0, fn := x.frame.fn, pos := x.frame.place, act := .go gs.size }, { g := gs.size, fn := child.frame.fn, pos := x.frame.place, act := .start }] := by
        apply Array.ext'; simp
      rw [hpush] at hrun
      have p2 := PastH.ofPast (Still := fun l => l.isMemory = true) p1 fun l h => h
      have hdk : Deaf (T ++ MemOp.ofEvents 0 x.frame.fn x.frame.place es) gs.size = 0 := by
        rw [Deaf_other T (g' := 0) (by omega) _ ho]; exact hL.above _ (Nat.le_refl _)
      have p3 := PastH.hire p2 rfl hdk x.frame.fn x.frame.place child.frame.fn
      have p4 : PastP (fun g => g = 0 ∨ g = gs.size) gs.size B₁ (T ++ (MemOp.ofEvents 0 x.frame.fn x.frame.place es ++ #[{ g := 0, fn := x.frame.fn, pos := x.frame.place, act := .go gs.size }, { g := gs.size, fn := child.frame.fn, pos := x.frame.place, act := .start }])) := by
        rw [← Array.append_assoc]
        exact PastG.loosen p3 fun g hg => hg.elim (fun x => x.elim) id
      have hq : ∀ g, ∀ op ∈ (#[{ g := 0, fn := x.frame.fn, pos := x.frame.place, act := .go gs.size }, { g := gs.size, fn := child.frame.fn, pos := x.frame.place, act := .start }] : Trace), ∀ d, deafStep g d op = d := by
        intro g op hop d
        simp only [List.mem_toArray, List.mem_cons, List.not_mem_nil, or_false] at hop
        rcases hop with rfl | rfl <;> rfl
      have hdeaf : ∀ j, j ≠ 0 → Deaf (T ++ (MemOp.ofEvents 0 x.frame.fn x.frame.place es ++ #[{ g := 0, fn := x.frame.fn, pos := x.frame.place, act := .go gs.size }, { g := gs.size, fn := child.frame.fn, pos := x.frame.place, act := .start }])) j = Deaf T j := fun j hj => by
        rw [← Array.append_assoc, Deaf_quiet (hq j), Deaf_other T (g' := 0) (fun e => hj e.symm) _ ho]
      obtain ⟨nr, hnr⟩ := (rcv_iff P c W z Fin vs _).1 hR
      obtain ⟨ns, hns⟩ := (snd_iff P c W vs _).1 hS
      refine Done.step (hst.trans hrun) ?_
      have hsz : ((gs.setIfInBounds 0 a').push child).size = gs.size + 1 := by simp
      have := phA_run (P := P) (k := gs.size) (z := z) (Fin := Fin) (sl := sl') vs _ (nr + 1) (ns + 1) ((gs.setIfInBounds 0 a').push child) (w.at d) _ q B₁ rfl ⟨by omega, ⟨a', by
          rw [Array.getElem?_push, if_neg (by simp; omega), Array.getElem?_setIfInBounds_self_of_lt hlt0], .inl ⟨nr, rfl, hnr⟩⟩, ⟨child, by rw [Array.getElem?_push, if_pos (by simp)], .inl ⟨ns, rfl, hns⟩⟩, .inl (by omega), fun j y hjp hjk hy => by
          rw [Array.getElem?_push, if_neg (by simpa using hjk), Array.getElem?_setIfInBounds_ne (by omega)] at hy
          rw [hdeaf j (by omega)]
          exact hL.old j y hjp hy, fun j hj => by
          rw [hdeaf j (by omega)]
          exact hL.above j (by omega), ⟨s, hchan⟩, hkeep1, p4⟩
      rw [hsz] at this
      exact this
    · obtain ⟨g', ops, k', hqi, hrun, k1, k2, k3, k4⟩ := slip (P := P) (w := w.at d) (sl := sl') hi hpos hx (hL.old i x hpos hi)
      have hlt : i < gs.size := (Array.getElem?_eq_some_iff.1 hi).1
      have hagain : ∀ (x : Nat) (y : Goroutine), gs[x]? = some y → y.again (w.at d) = y := by
        intro x y hy
        rcases Nat.eq_zero_or_pos x with rfl | hpos
        · rw [h0] at hy; obtain rfl := Option.some.inj hy; exact again_of_running (.inl ha) _
        · exact again_of_running (hL.old x y hpos hy).status _
      have hfix := map_fixed (P := P) (gs := gs) (i := i) (g := x) (g' := g') (w := w.at d) fun x y _ hy => hagain x y hy
      have hsz : ((gs.map (woken P x g' (w.at d))).setIfInBounds i g').size = gs.size := by simp
      have hsum : sumTo gs.size (upd q i k') + (k' + 1) = sumTo gs.size q + k' := by
        have := sumTo_upd q k' id hlt
        simpa [hqi] using this
      refine Done.step (hst.trans hrun) ?_
      have := ih (sumTo gs.size (upd q i k')) (by omega) ((gs.map (woken P x g' (w.at d))).setIfInBounds i g') (w.at d) sl' (T ++ ops) (upd q i k') B a a' child es s (by rw [hsz]) (by rw [hfix 0 (by omega)]; exact h0) ha ⟨fun j y hjp hy => by
          by_cases hji : j = i
          · subst hji
            rw [Array.getElem?_setIfInBounds_self_of_lt (by simpa using hlt)] at hy
            obtain rfl := Option.some.inj hy
            rw [upd_same]; exact k4
          · rw [hfix j hji] at hy
            rw [upd_ne q k' hji, Deaf_other T (g' := i) (fun e => hji e.symm) ops k1]
            exact hL.old j y hjp hy, fun j hj => by
          rw [Deaf_other T (g' := i) (by simp at hj; omega) ops k1]
          exact hL.above j (by simpa using hj)⟩ (hP.appMute (by omega) k1 k2 (k3 B)) hkeep1 hchan hgo hes hR hS
      rw [hsz] at this
      exact this
end Go.Proofs.Ytkhmooemgjichaa
