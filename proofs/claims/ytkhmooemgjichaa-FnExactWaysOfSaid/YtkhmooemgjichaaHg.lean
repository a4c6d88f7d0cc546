/- A SENDER THAT ONLY READS, AND GOROUTINE 0 RECEIVING: the whole phase. -/
import Derived.Test.YtkhmooemgjichaaHf
namespace Go.Proofs.Ytkhmooemgjichaa
open Go Go.Conc
open Go.ConcN (sumTo upd sumTo_upd upd_ne upd_same)
variable {P : Program} {c : Nat} {W : World} {z : Value} {Fin : Goroutine → Prop}

structure PhA (P : Program) (c : Nat) (W : World) (z : Value) (Fin : Goroutine → Prop) (k : Nat) (vs : List Value) (nA nB : Nat) (gs : Array Goroutine) (w : World) (T : Trace) (q : Nat → Nat) (B : Nat) : Prop where
  pos : k ≠ 0
  recv : ∃ a, gs[0]? = some a ∧ RSt P c W z Fin vs nA a
  send : ∃ b, gs[k]? = some b ∧ SSt P c W vs nB b
  both : nA ≠ 0 ∨ nB ≠ 0
  old : ∀ i g, 0 < i → i ≠ k → gs[i]? = some g → QuitsD P (q i) (Deaf T i) g
  above : ∀ j, gs.size ≤ j → Deaf T j = 0
  chan : ∃ s, w.heap[c]? = some (.chan 0 #[] false s s false)
  keep : Aside c W w
  past : PastP (fun g => g = 0 ∨ g = k) k B T

theorem PastP.closeK {M : Nat → Prop} {k B : Nat} {T : Trace} (h : PastP M k B T) (hM : M k) (fn : FuncId) (pos : String) :
    (∃ B', B ≤ B' ∧ PastP M k B' (T ++ MemOp.ofEvents k fn pos (closeEvents c))) ∧ Shut c k (T ++ MemOp.ofEvents k fn pos (closeEvents c)) (T.size + 1) ∧ (∀ op ∈ MemOp.ofEvents k fn pos (closeEvents c), op.g = k) := by
  have hops := closeOps k fn pos c
  have hown : ∀ op ∈ MemOp.ofEvents k fn pos (closeEvents c), op.g = k := fun op hop => by obtain ⟨e, _, rfl⟩ := Go.Conc.mem_ofEvents hop; rfl
  have hq : ∀ g, ∀ op ∈ MemOp.ofEvents k fn pos (closeEvents c), ∀ d, deafStep g d op = d := by
    intro g op hop d
    rw [hops] at hop
    simp only [List.mem_toArray, List.mem_cons, List.not_mem_nil, or_false] at hop
    rcases hop with rfl | rfl <;> rfl
  have hr : ∀ op ∈ MemOp.ofEvents k fn pos (closeEvents c), ∀ b, op.act.touch? = some b → b.write = false ∧ b.loc.isMemory = true := by
    intro op hop b hb
    rw [hops] at hop
    simp only [List.mem_toArray, List.mem_cons, List.not_mem_nil, or_false] at hop
    rcases hop with rfl | rfl
    · simp only [MemAct.touch?, Option.some.injEq] at hb; subst hb; exact ⟨rfl, rfl⟩
    · cases hb
  obtain ⟨B₁, hB⟩ := low_all (MemOp.ofEvents k fn pos (closeEvents c))
  have e0 : (T ++ MemOp.ofEvents k fn pos (closeEvents c))[T.size + 1]? = some { g := k, fn := fn, pos := pos, act := .close c } := by rw [at_new, hops]; rfl
  refine ⟨⟨max B B₁, Nat.le_max_left _ _, PastH.appRead (PastG.mono h (Nat.le_max_left _ _)) hM rfl hown hr (Deaf_quiet (hq k)) fun op hop => MemAct.low_mono (Nat.le_max_right _ _) (hB op hop)⟩, ⟨act?_of e0, g?_of e0, ⟨k, g?_of e0, ?_⟩, fun i op hi hg ht => ?_⟩, hown⟩
  · rw [deaf_quiet (hq k) 1 (by rw [hops]; exact Nat.le_succ 1)]
    exact h.hears k hM
  · rcases getElem?_append_cases hi with ⟨hi', _⟩ | ⟨hge, hu⟩
    · omega
    · rcases Nat.lt_or_ge i (T.size + 1) with hlt | hge'
      · exact hlt
      · exfalso
        have hlt2 : i < (T ++ MemOp.ofEvents k fn pos (closeEvents c)).size := lt_size_of_getElem? hi
        rw [Array.size_append, hops] at hlt2
        obtain rfl : i = T.size + 1 := by simp at hlt2; omega
        rw [e0] at hi
        obtain rfl := Option.some.inj hi
        exact ht rfl

theorem comm_quiet {ops : Array MemOp} (h : ∀ op ∈ ops, (∃ n, op.act = .send c n) ∨ (∃ n, op.act = .sendDone c n) ∨ (∃ n p, op.act = .recv c n p) ∨ ∃ n, op.act = .recvDone c n) :
    (∀ op ∈ ops, op.act.touch? = none) ∧ ∀ g, ∀ op ∈ ops, ∀ d, deafStep g d op = d := by
  refine ⟨fun op hop => ?_, fun g op hop d => ?_⟩
  · rcases h op hop with ⟨n, e⟩ | ⟨n, e⟩ | ⟨n, p, e⟩ | ⟨n, e⟩ <;> rw [e] <;> rfl
  · rcases h op hop with ⟨n, e⟩ | ⟨n, e⟩ | ⟨n, p, e⟩ | ⟨n, e⟩ <;> simp only [deafStep, e]

theorem RSt.again {vs : List Value} {n : Nat} {g : Goroutine} {w : World} (hw : Aside c W w) (h : RSt P c W z Fin vs n g) {s : Nat} (hc : w.heap[c]? = some (.chan 0 #[] false s s false)) : g.again w = g := by
  rcases h with ⟨k, rfl, h⟩ | ⟨rfl, g₂, rfl, _⟩
  · exact again_of_running (.inl (goes_run (fun g h => h.1) h hw)) w
  · exact again_recv_open hc
theorem SSt.again {vs : List Value} {n : Nat} {g : Goroutine} {w : World} (hw : Aside c W w) (h : SSt P c W vs n g) {s : Nat} (hc : w.heap[c]? = some (.chan 0 #[] false s s false)) : g.again w = g := by
  rcases h with ⟨k, rfl, h⟩ | ⟨rfl, v, vs', g₂, z', _, rfl, _⟩
  · exact again_of_running (.inl (goes_run (fun g h => by cases vs <;> exact h.1) h hw)) w
  · exact again_send_open hc
theorem SSt.offers {vs : List Value} {n : Nat} {g : Goroutine} {w : World} (hw : Aside c W w) (h : SSt P c W vs n g) : offersAt g c false = [] := by
  rcases h with ⟨k, rfl, h⟩ | ⟨rfl, v, vs', g₂, z', _, rfl, _⟩
  · exact offersAt_of_not_blocked (fun hb => by rw [goes_run (fun g h => by cases vs <;> exact h.1) h hw] at hb; cases hb) _ _
  · exact offersAt_parked_send' _ _ _ _ _ _
theorem RSt.offers {vs : List Value} {n : Nat} {g : Goroutine} {w : World} (hw : Aside c W w) (h : RSt P c W z Fin vs n g) : offersAt g c true = [] := by
  rcases h with ⟨k, rfl, h⟩ | ⟨rfl, g₂, rfl, _⟩
  · exact offersAt_of_not_blocked (fun hb => by rw [goes_run (fun g h => h.1) h hw] at hb; cases hb) _ _
  · exact offersAt_parked_recv' _ _ _ _ _

/-- What one step does to the frame: the next frame, or behind the close. -/
theorem phA_step {k : Nat} {vs : List Value} {nA nB : Nat} {gs : Array Goroutine} {w : World} {sl : Option (Nat × Nat)} {T : Trace} {q : Nat → Nat} {B : Nat} (h : PhA P c W z Fin k vs nA nB gs w T q B) :
    ∃ gs' w' sl' ops q' B', stepT P (crowd gs w sl) = (.next (crowd gs' w' sl'), ops) ∧ gs'.size = gs.size ∧
      ((∃ nA' nB', PhA P c W z Fin k vs nA' nB' gs' w' (T ++ ops) q' B' ∧ nA' + nB' + sumTo gs.size q' < nA + nB + sumTo gs.size q) ∨
       (∃ v vs' nA' nB', vs = v :: vs' ∧ PhA P c W z Fin k vs' nA' nB' gs' w' (T ++ ops) q' B') ∨
       (vs = [] ∧ ∃ nA', PhC P c W z Fin k nA' gs' w' (T ++ ops) q' B')) := by
  obtain ⟨hk, ⟨a, h0, hR⟩, ⟨b, hb0, hS⟩, hboth, hold, habove, ⟨s, hchan⟩, hkeep, hpast⟩ := h
  have hlt0 : 0 < gs.size := (Array.getElem?_eq_some_iff.1 h0).1
  have hltk : k < gs.size := (Array.getElem?_eq_some_iff.1 hb0).1
  have haw : ∀ x ∈ gs, awake x := by
    intro x hx
    obtain ⟨i, hi, rfl⟩ := Array.mem_iff_getElem.1 hx
    rcases Nat.eq_zero_or_pos i with rfl | hpos
    · have : gs[0] = a := by simpa [Array.getElem?_eq_getElem hi] using h0
      rw [this]; exact awake_of ((hR.status hkeep).elim (fun x => .inl x.1) fun x => .inr (.inl x.1))
    · by_cases hik : i = k
      · subst hik
        have : gs[i] = b := by simpa [Array.getElem?_eq_getElem hi] using hb0
        rw [this]; exact awake_of ((hS.status hkeep).elim (fun x => .inl x.1) fun x => .inr (.inl x.1))
      · exact awake_of ((hold i _ hpos hik (Array.getElem?_eq_getElem hi)).status.elim .inl fun x => .inr (.inr x))
  have hsome : ∃ (i : Nat) (g : Goroutine), gs[i]? = some g ∧ g.status = .running := by
    rcases hR.status hkeep with x | x
    · exact ⟨0, a, h0, x.1⟩
    · rcases hS.status hkeep with y | y
      · exact ⟨k, b, hb0, y.1⟩
      · omega
  obtain ⟨i, x, d, sl', hi, hx, hst⟩ := crowd_pick (P := P) (w := w) (sl := sl) haw hsome
  have hkeep1 : Aside c W (w.at d) := aside_at hkeep d
  have hchan1 : (w.at d).heap[c]? = some (.chan 0 #[] false s s false) := hchan
  have hagain : ∀ (x : Nat) (y : Goroutine), gs[x]? = some y → y.again (w.at d) = y := by
    intro x y hy
    rcases Nat.eq_zero_or_pos x with rfl | hpos
    · rw [h0] at hy; obtain rfl := Option.some.inj hy; exact hR.again hkeep1 hchan1
    · by_cases hxk : x = k
      · subst hxk; rw [hb0] at hy; obtain rfl := Option.some.inj hy; exact hS.again hkeep1 hchan1
      · exact again_of_running (hold x y hpos hxk hy).status _
  have hoffO : ∀ (x : Nat) (y : Goroutine) (s : Bool), x ≠ 0 → x ≠ k → gs[x]? = some y → offersAt y c s = [] := fun x y s hx0 hxk hy =>
    offersAt_of_not_blocked (fun hb => by rcases (hold x y (by omega) hxk hy).status with e | e <;> rw [e] at hb <;> cases hb) _ _
  have hne0 : ∀ (y : Goroutine) (j : Nat), 0 < j → (gs.setIfInBounds 0 y)[j]? = gs[j]? := fun y j hj => Array.getElem?_setIfInBounds_ne (by omega)
  have hnek : ∀ (y : Goroutine) (j : Nat), j ≠ k → (gs.setIfInBounds k y)[j]? = gs[j]? := fun y j hj => Array.getElem?_setIfInBounds_ne (by omega)
  have hb' : (k == 0) = false := by simpa using hk
  rcases Nat.eq_zero_or_pos i with rfl | hpos
  · obtain rfl : x = a := by rw [h0] at hi; exact (Option.some.inj hi).symm
    obtain ⟨k', rfl, hgo⟩ : ∃ k', nA = k' + 1 ∧ Goes P true (RA c W) DR (fun g _ => AtRcv P c W z (NextR P c W z Fin vs) g) k' x default := by
      rcases hR with h | ⟨_, g₂, rfl, _⟩
      · exact h
      · cases hx
    rcases goes_cases hgo hkeep1 with hstop | ⟨k'', g', d', es, rfl, _, hstep, hes, hgo'⟩
    · obtain ⟨_, es, hes, g₂, e1, e2, e3, hnext, hcomm⟩ := hstop
      obtain ⟨ho, _, hdf⟩ := evP_ops (i := 0) (fn := x.frame.fn) (pos := x.frame.place) hes
      obtain ⟨B₁, hB₁, p1⟩ := hpast.read0 (fn := x.frame.fn) (pos := x.frame.place) hes
      rcases hS with ⟨kb, rfl, hgoB⟩ | ⟨rfl, v, vs', g₂b, z', rfl, rfl, hsnd⟩
      · -- it waits
        have hbr : b.status = .running := goes_run (fun g h => by cases vs <;> exact h.1) hgoB hkeep
        have hno : partners (gs.setIfInBounds 0 ph) c true = [] := partners_nil fun j y hj => by
          rcases Nat.eq_zero_or_pos j with rfl | hjp
          · rw [Array.getElem?_setIfInBounds_self_of_lt hlt0] at hj
            obtain rfl := Option.some.inj hj; exact offersAt_ph _ _
          · rw [hne0 _ j hjp] at hj
            by_cases hjk : j = k
            · subst hjk; rw [hb0] at hj; obtain rfl := Option.some.inj hj
              exact offersAt_of_not_blocked (fun hb => by rw [hbr] at hb; cases hb) _ _
            · exact hoffO j y true (by omega) hjk hj
        have hrun := crowd_waits (P := P) (sl := sl') (i := 0) h0 (show stepG P (0 == 0) x (w.at d) = _ from hcomm _ hkeep1) (fun cc hcc => by
          rw [List.mem_toArray, List.mem_singleton] at hcc; subst hcc
          exact ways_recv_none hchan1 hno)
        refine ⟨_, _, sl', _, q, B₁, hst.trans hrun, by simp, .inl ⟨0, kb + 1, ⟨hk, ⟨_, Array.getElem?_setIfInBounds_self_of_lt hlt0, .inr ⟨rfl, g₂, rfl, ⟨rfl, es, hes, g₂, rfl, rfl, rfl, hnext, fun w hw => by rw [← hcomm w hw]; exact stepG_same e1.symm e2.symm e3.symm w⟩, hnext⟩⟩, ⟨b, by rw [hne0 _ k (by omega)]; exact hb0, .inl ⟨kb, rfl, hgoB⟩⟩, .inr (by omega), fun j y hjp hjk hy => ?_, fun j hj => ?_, ⟨s, hchan1⟩, hkeep1, p1⟩, by omega⟩⟩
        · rw [hne0 _ j hjp] at hy
          rw [Deaf_other T (g' := 0) (by omega) _ ho]
          exact hold j y hjp hjk hy
        · rw [Deaf_other T (g' := 0) (by simp at hj; omega) _ ho]
          exact habove j (by simpa using hj)
      · -- it meets the sender
        have hpart : partners (gs.setIfInBounds 0 ph) c true = [(k, 0)] := by
          have hk' : (gs.setIfInBounds 0 ph)[k]? = some (parked g₂b #[scase c v z'] .send) := by rw [hne0 _ k (by omega)]; exact hb0
          rw [partners_one hk' fun j y hjk hj => ?_, offersAt_parked_send, if_pos rfl]
          · rfl
          · rcases Nat.eq_zero_or_pos j with rfl | hjp
            · rw [Array.getElem?_setIfInBounds_self_of_lt hlt0] at hj
              obtain rfl := Option.some.inj hj; exact offersAt_ph _ _
            · rw [hne0 _ j hjp] at hj
              exact hoffO j y true (by omega) hjk hj
        have hrun := crowd_recv_meets (P := P) (sl := sl') (i := 0) (j := k) h0 (show stepG P (0 == 0) x (w.at d) = _ from hcomm _ hkeep1) hchan1 hk hb0 hpart
        rw [finishComm_recv, finishComm_send] at hrun
        obtain ⟨nr, hnr⟩ := (rcv_iff P c W z Fin vs' _).1 hnext
        obtain ⟨ns, hns⟩ := (snd_iff P c W vs' _).1 hsnd
        obtain ⟨hcn, hcq⟩ := comm_quiet (c := c) (ops := #[{ g := k, fn := g₂b.frame.fn, pos := g₂b.frame.place, act := .send c s }, { g := 0, fn := g₂.frame.fn, pos := g₂.frame.place, act := .recv c s 0 }, { g := k, fn := g₂b.frame.fn, pos := g₂b.frame.place, act := .sendDone c s }, { g := 0, fn := g₂.frame.fn, pos := g₂.frame.place, act := .recvDone c s }]) (by
          intro op hop
          simp only [List.mem_toArray, List.mem_cons, List.not_mem_nil, or_false] at hop
          rcases hop with rfl | rfl | rfl | rfl
          · exact .inl ⟨_, rfl⟩
          · exact .inr (.inr (.inl ⟨_, _, rfl⟩))
          · exact .inr (.inl ⟨_, rfl⟩)
          · exact .inr (.inr (.inr ⟨_, rfl⟩)))
        obtain ⟨B₂, hB₂, p2⟩ := p1.quiet hcn hcq
        rw [Array.append_assoc] at p2
        refine ⟨_, _, sl', _, q, B₂, hst.trans hrun, by simp, .inr (.inl ⟨v, vs', nr + 1, ns + 1, rfl, ⟨hk, ⟨_, Array.getElem?_setIfInBounds_self_of_lt (by simpa using hlt0), .inl ⟨nr, rfl, hnr⟩⟩, ⟨_, by rw [Array.getElem?_setIfInBounds_ne (by omega), Array.getElem?_setIfInBounds_self_of_lt hltk], .inl ⟨ns, rfl, hns⟩⟩, .inl (by omega), fun j y hjp hjk hy => ?_, fun j hj => ?_, ⟨s + 1, heap_setChan ⟨_, hchan1⟩⟩, aside_setChan hkeep1 _ _ _ _, p2⟩⟩)⟩
        · rw [Array.getElem?_setIfInBounds_ne (by omega), hnek _ j hjk] at hy
          rw [← Array.append_assoc, Deaf_quiet (hcq j), Deaf_other T (g' := 0) (by omega) _ ho]
          exact hold j y hjp hjk hy
        · rw [← Array.append_assoc, Deaf_quiet (hcq j), Deaf_other T (g' := 0) (by simp at hj; omega) _ ho]
          exact habove j (by simpa using hj)
    · have hrun := runT_crowd_go (P := P) (sl := sl') (i := 0) h0 (show stepG P (0 == 0) x (w.at d) = _ from hstep)
      obtain ⟨B₁, hB₁, p1⟩ := hpast.read0 (fn := x.frame.fn) (pos := x.frame.place) hes
      obtain ⟨ho, _, hdf⟩ := evP_ops (i := 0) (fn := x.frame.fn) (pos := x.frame.place) hes
      have hfix := map_fixed (P := P) (gs := gs) (i := 0) (g := x) (g' := g') (w := (w.at d).at d') fun x y _ hy => hagain x y hy
      have hsz : ((gs.map (woken P x g' ((w.at d).at d'))).setIfInBounds 0 g').size = gs.size := by simp
      refine ⟨_, _, sl', _, q, B₁, hst.trans hrun, hsz, .inl ⟨k'' + 1, nB, ⟨hk, ⟨g', by rw [Array.getElem?_setIfInBounds_self_of_lt (by simpa using hlt0)], .inl ⟨k'', rfl, hgo'⟩⟩, ⟨b, by rw [hfix k hk]; exact hb0, hS⟩, .inl (by omega), fun j y hjp hjk hy => ?_, fun j hj => ?_, ⟨s, hchan1⟩, aside_at hkeep1 d', p1⟩, by omega⟩⟩
      · rw [hfix j (by omega)] at hy
        rw [Deaf_other T (g' := 0) (by omega) _ ho]
        exact hold j y hjp hjk hy
      · rw [Deaf_other T (g' := 0) (by rw [hsz] at hj; omega) _ ho]
        exact habove j (by rw [hsz] at hj; exact hj)
  · by_cases hik : i = k
    · rw [hik] at hi hst
      obtain rfl : x = b := by rw [hb0] at hi; exact (Option.some.inj hi).symm
      have hkn : (k == 0) = false := hb'
      obtain ⟨k', rfl, hgo⟩ : ∃ k', nB = k' + 1 ∧ Goes P false (RA c W) DR (fun g _ => StopS P c W vs g) k' x default := by
        rcases hS with h | ⟨_, v, vs', g₂, z', _, rfl, _⟩
        · exact h
        · cases hx
      rcases goes_cases hgo hkeep1 with hstop | ⟨k'', g', d', es, rfl, _, hstep, hes, hgo'⟩
      · cases vs with
        | nil =>
          -- the close
          obtain ⟨_, hwake, g₂, n, hg₂, hcls, hquits⟩ := hstop
          have hrun := runT_crowd_go (P := P) (sl := sl') (i := k) hb0 (show stepG P (k == 0) x (w.at d) = _ by rw [hkn]; exact hcls _ s hkeep1 hchan1)
          obtain ⟨⟨B₁, hB₁, p1⟩, hsh, ho⟩ := hpast.closeK (c := c) (.inr rfl) x.frame.fn x.frame.place
          have hk0 : k ≠ 0 := hk
          have hold' : ∀ (j : Nat) (y : Goroutine), 0 < j → j ≠ k → ((gs.map (woken P x g₂ ((w.at d).setChan c 0 #[] true s s false))).setIfInBounds k g₂)[j]? = some y → gs[j]? = some y := by
            intro j y hjp hjk hy
            rw [Array.getElem?_setIfInBounds_ne (by omega), Array.getElem?_map] at hy
            cases e : gs[j]? with
            | none => rw [e] at hy; cases hy
            | some u =>
              rw [e] at hy
              simp only [Option.map_some, Option.some.injEq] at hy
              rw [woken_of_again (again_of_running (hold j u hjp hjk e).status _)] at hy
              rw [hy]
          have hchan2 : ((w.at d).setChan c 0 #[] true s s false).heap[c]? = some (.chan 0 #[] true s s false) := heap_setChan ⟨_, hchan1⟩
          have hrecv : ∃ nA' a', ((gs.map (woken P x g₂ ((w.at d).setChan c 0 #[] true s s false))).setIfInBounds k g₂)[0]? = some a' ∧ Goes P true (RA c W) DR (fun g _ => AtRcv P c W z (NextR P c W z Fin []) g) nA' a' default := by
            rw [Array.getElem?_setIfInBounds_ne (by omega), Array.getElem?_map, h0]
            rcases hR with ⟨ka, rfl, hgoA⟩ | ⟨rfl, g₂a, rfl, hat, _⟩
            · refine ⟨ka, a, ?_, hgoA⟩
              simp only [Option.map_some, woken_of_again (again_of_running (.inl (goes_run (fun g h => h.1) hgoA hkeep)) _)]
            · refine ⟨0, _, rfl, fun _ _ => ?_⟩
              have : woken P x g₂ ((w.at d).setChan c 0 #[] true s s false) (parked g₂a #[rcase c z] (.recv true)) = { parked g₂a #[rcase c z] (.recv true) with status := .running } := by
                unfold woken
                rw [if_pos (by simp [hwake, hg₂])]
                exact again_recv_closed hchan2
              rw [this]
              exact hat
          obtain ⟨nA', a', hr1, hr2⟩ := hrecv
          refine ⟨_, _, sl', _, upd q k n, B₁, hst.trans hrun, by simp, .inr (.inr ⟨rfl, nA', ⟨hk, ⟨a', hr1, hr2⟩, fun j y hjp hy => ?_, fun j hj => ?_, ⟨s, hchan2⟩, aside_setChan hkeep1 _ _ _ _, PastG.fewer p1 fun g hg => .inl hg, ⟨_, hsh⟩⟩⟩)⟩
          · by_cases hjk : j = k
            · subst hjk
              rw [Array.getElem?_setIfInBounds_self_of_lt (by simpa using hltk)] at hy
              obtain rfl := Option.some.inj hy
              have hd0 : Deaf (T ++ MemOp.ofEvents j x.frame.fn x.frame.place (closeEvents c)) j = 0 := p1.hears j (.inr rfl)
              rw [upd_same, hd0]; exact hquits
            · rw [upd_ne q n hjk, Deaf_other T (g' := k) (fun e => hjk e.symm) _ ho]
              exact hold j y hjp hjk (hold' j y hjp hjk hy)
          · rw [Deaf_other T (g' := k) (by simp at hj; omega) _ ho]
            exact habove j (by simpa using hj)
        | cons v vs' =>
          obtain ⟨_, g₂, z', es, hes, hcomm, hnext⟩ := hstop
          obtain ⟨ho, _, hdf⟩ := evP_ops (i := k) (fn := x.frame.fn) (pos := x.frame.place) hes
          obtain ⟨B₁, hB₁, p1⟩ := hpast.readK (.inr rfl) (fn := x.frame.fn) (pos := x.frame.place) hes
          have hstep : stepG P (k == 0) x (w.at d) = .comm g₂ #[scase c v z'] true .send (w.at d) es := by rw [hkn]; exact hcomm _ hkeep1
          rcases hR with ⟨ka, rfl, hgoA⟩ | ⟨rfl, g₂a, rfl, hat, hnextA⟩
          · -- it waits
            have har : a.status = .running := goes_run (fun g h => h.1) hgoA hkeep
            have hno : partners (gs.setIfInBounds k ph) c false = [] := partners_nil fun j y hj => by
              by_cases hjk : j = k
              · subst hjk
                rw [Array.getElem?_setIfInBounds_self_of_lt hltk] at hj
                obtain rfl := Option.some.inj hj; exact offersAt_ph _ _
              · rw [hnek _ j hjk] at hj
                rcases Nat.eq_zero_or_pos j with rfl | hjp
                · rw [h0] at hj; obtain rfl := Option.some.inj hj
                  exact offersAt_of_not_blocked (fun hb => by rw [har] at hb; cases hb) _ _
                · exact hoffO j y false (by omega) hjk hj
            have hrun := crowd_waits (P := P) (sl := sl') (i := k) hb0 hstep (fun cc hcc => by
              rw [List.mem_toArray, List.mem_singleton] at hcc; subst hcc
              exact ways_send_none hchan1 (Nat.le_refl _) hno)
            refine ⟨_, _, sl', _, q, B₁, hst.trans hrun, by simp, .inl ⟨ka + 1, 0, ⟨hk, ⟨a, by rw [hnek _ 0 (by omega)]; exact h0, .inl ⟨ka, rfl, hgoA⟩⟩, ⟨_, Array.getElem?_setIfInBounds_self_of_lt hltk, .inr ⟨rfl, v, vs', g₂, z', rfl, rfl, hnext⟩⟩, .inl (by omega), fun j y hjp hjk hy => ?_, fun j hj => ?_, ⟨s, hchan1⟩, hkeep1, p1⟩, by omega⟩⟩
            · rw [hnek _ j hjk] at hy
              rw [Deaf_other T (g' := k) (fun e => hjk e.symm) _ ho]
              exact hold j y hjp hjk hy
            · rw [Deaf_other T (g' := k) (by simp at hj; omega) _ ho]
              exact habove j (by simpa using hj)
          · -- it meets the receiver
            have hpart : partners (gs.setIfInBounds k ph) c false = [(0, 0)] := by
              have hk' : (gs.setIfInBounds k ph)[0]? = some (parked g₂a #[rcase c z] (.recv true)) := by rw [hnek _ 0 (by omega)]; exact h0
              rw [partners_one hk' fun j y hj0 hj => ?_, offersAt_parked_recv, if_pos rfl]
              · rfl
              · by_cases hjk : j = k
                · subst hjk
                  rw [Array.getElem?_setIfInBounds_self_of_lt hltk] at hj
                  obtain rfl := Option.some.inj hj; exact offersAt_ph _ _
                · rw [hnek _ j hjk] at hj
                  exact hoffO j y false hj0 hjk hj
            have hrun := crowd_send_meets (P := P) (sl := sl') (i := k) (j := 0) hb0 hstep hchan1 (by omega) h0 hpart
            rw [finishComm_recv, finishComm_send] at hrun
            obtain ⟨nr, hnr⟩ := (rcv_iff P c W z Fin vs' _).1 hnextA
            obtain ⟨ns, hns⟩ := (snd_iff P c W vs' _).1 hnext
            obtain ⟨hcn, hcq⟩ := comm_quiet (c := c) (ops := #[{ g := k, fn := g₂.frame.fn, pos := g₂.frame.place, act := .send c s }, { g := 0, fn := g₂a.frame.fn, pos := g₂a.frame.place, act := .recv c s 0 }, { g := k, fn := g₂.frame.fn, pos := g₂.frame.place, act := .sendDone c s }, { g := 0, fn := g₂a.frame.fn, pos := g₂a.frame.place, act := .recvDone c s }]) (by
              intro op hop
              simp only [List.mem_toArray, List.mem_cons, List.not_mem_nil, or_false] at hop
              rcases hop with rfl | rfl | rfl | rfl
              · exact .inl ⟨_, rfl⟩
              · exact .inr (.inr (.inl ⟨_, _, rfl⟩))
              · exact .inr (.inl ⟨_, rfl⟩)
              · exact .inr (.inr (.inr ⟨_, rfl⟩)))
            obtain ⟨B₂, hB₂, p2⟩ := p1.quiet hcn hcq
            rw [Array.append_assoc] at p2
            refine ⟨_, _, sl', _, q, B₂, hst.trans hrun, by simp, .inr (.inl ⟨v, vs', nr + 1, ns + 1, rfl, ⟨hk, ⟨_, by rw [Array.getElem?_setIfInBounds_ne (by omega), Array.getElem?_setIfInBounds_self_of_lt hlt0], .inl ⟨nr, rfl, hnr⟩⟩, ⟨_, Array.getElem?_setIfInBounds_self_of_lt (by simpa using hltk), .inl ⟨ns, rfl, hns⟩⟩, .inl (by omega), fun j y hjp hjk hy => ?_, fun j hj => ?_, ⟨s + 1, heap_setChan ⟨_, hchan1⟩⟩, aside_setChan hkeep1 _ _ _ _, p2⟩⟩)⟩
            · rw [Array.getElem?_setIfInBounds_ne (by omega), hne0 _ j hjp] at hy
              rw [← Array.append_assoc, Deaf_quiet (hcq j), Deaf_other T (g' := k) (fun e => hjk e.symm) _ ho]
              exact hold j y hjp hjk hy
            · rw [← Array.append_assoc, Deaf_quiet (hcq j), Deaf_other T (g' := k) (by simp at hj; omega) _ ho]
              exact habove j (by simpa using hj)
      · have hrun := runT_crowd_go (P := P) (sl := sl') (i := k) hb0 (show stepG P (k == 0) x (w.at d) = _ by rw [hkn]; exact hstep)
        obtain ⟨B₁, hB₁, p1⟩ := hpast.readK (.inr rfl) (fn := x.frame.fn) (pos := x.frame.place) hes
        obtain ⟨ho, _, hdf⟩ := evP_ops (i := k) (fn := x.frame.fn) (pos := x.frame.place) hes
        have hfix := map_fixed (P := P) (gs := gs) (i := k) (g := x) (g' := g') (w := (w.at d).at d') fun x y _ hy => hagain x y hy
        have hsz : ((gs.map (woken P x g' ((w.at d).at d'))).setIfInBounds k g').size = gs.size := by simp
        refine ⟨_, _, sl', _, q, B₁, hst.trans hrun, hsz, .inl ⟨nA, k'' + 1, ⟨hk, ⟨a, by rw [hfix 0 (by omega)]; exact h0, hR⟩, ⟨g', by rw [Array.getElem?_setIfInBounds_self_of_lt (by simpa using hltk)], .inl ⟨k'', rfl, hgo'⟩⟩, .inr (by omega), fun j y hjp hjk hy => ?_, fun j hj => ?_, ⟨s, hchan1⟩, aside_at hkeep1 d', p1⟩, by omega⟩⟩
        · rw [hfix j hjk] at hy
          rw [Deaf_other T (g' := k) (fun e => hjk e.symm) _ ho]
          exact hold j y hjp hjk hy
        · rw [Deaf_other T (g' := k) (by rw [hsz] at hj; omega) _ ho]
          exact habove j (by rw [hsz] at hj; exact hj)
    · obtain ⟨g', ops, k', hqi, hrun, k1, k2, k3, k4⟩ := slip (P := P) (w := w.at d) (sl := sl') hi hpos hx (hold i x hpos hik hi)
      have hlt : i < gs.size := (Array.getElem?_eq_some_iff.1 hi).1
      have hfix := map_fixed (P := P) (gs := gs) (i := i) (g := x) (g' := g') (w := w.at d) fun x y _ hy => hagain x y hy
      have hsz : ((gs.map (woken P x g' (w.at d))).setIfInBounds i g').size = gs.size := by simp
      have hsum : sumTo gs.size (upd q i k') + (k' + 1) = sumTo gs.size q + k' := by
        have := sumTo_upd q k' id hlt
        simpa [hqi] using this
      refine ⟨_, _, sl', ops, upd q i k', B, hst.trans hrun, hsz, .inl ⟨nA, nB, ⟨hk, ⟨a, by rw [hfix 0 (by omega)]; exact h0, hR⟩, ⟨b, by rw [hfix k (fun e => hik e.symm)]; exact hb0, hS⟩, hboth, fun j y hjp hjk hy => ?_, fun j hj => ?_, ⟨s, hchan1⟩, hkeep1, hpast.mute (i := i) (by omega) k1 k2 (k3 B)⟩, by omega⟩⟩
      · by_cases hji : j = i
        · subst hji
          rw [Array.getElem?_setIfInBounds_self_of_lt (by simpa using hlt)] at hy
          obtain rfl := Option.some.inj hy
          rw [upd_same]; exact k4
        · rw [hfix j hji] at hy
          rw [upd_ne q k' hji, Deaf_other T (g' := i) (fun e => hji e.symm) ops k1]
          exact hold j y hjp hjk hy
      · rw [Deaf_other T (g' := i) (by simp at hj; omega) ops k1]
        exact habove j (by simpa using hj)
end Go.Proofs.Ytkhmooemgjichaa
