/- Circles of debts, in the program: the search. -/
import Derived.Test.YtbedjebnllimpaaNetF
import Derived.Test.YtbedjebnllimpaaSlI
import Derived.Test.YtbedjebnllimpaaPush2
import Derived.IntWalk
import Derived.Maps.Range
namespace Go.Proofs.Ytbedjebnllimpaa
open Go.RowKit

/-- A circle that was found, or nil. -/
def CircV (w : World) (v : Value) : Option (List Nat) → Prop
  | some t => IsInts w v (ti t) ∧ 0 < t.length
  | none => v = .slice none 0 0

theorem ti_contains (hd : List Nat) (q : Nat) : (ti hd).contains (q : Int) = hd.contains q := by
  induction hd with
  | nil => rfl
  | cons x xs ih =>
    have h : ti (x :: xs) = (x : Int) :: ti xs := rfl
    rw [h, List.contains_cons, List.contains_cons, ih]
    congr 1
    by_cases e : q = x
    · subst e; simp
    · have e2 : ¬ (q : Int) = (x : Int) := by omega
      rw [beq_eq_false_iff_ne.2 e, beq_eq_false_iff_ne.2 e2]

set_option maxRecDepth 100000 in
set_option maxHeartbeats 6400000 in
theorem circleFrom_impl (vg : Value) (g : List (List Int)) (hd1 : vDebts g = true) (w0 : World) (hg0 : IsGrid w0 vg g) : ∀ (f : Nat) (hd : List Nat) (gh ch : Nat) (w : World), freeN hd g.length < f → 0 < hd.length → hd.length + freeN hd g.length ≤ 100 → (∀ i, i < hd.length → hd.getD i 0 < g.length) → Below w0.heap.size w0 w → Own w w0.heap.size (sl gh hd.length ch) (ti hd) →
    Calls Try.prog 96 #[vg, .slice (some ⟨gh, 0, none⟩) hd.length ch] w fun e w' => ∃ v', e = .returned v' ∧ CircV w' v' (circF g f hd) ∧ Own w' w0.heap.size (sl gh hd.length ch) (ti hd) ∧ w.grownBy w' (some gh)
  | 0, hd, gh, ch, w, hf, _, _, _, _, _ => absurd hf (Nat.not_lt_zero _)
  | f + 1, hd, gh, ch, w, hf, hp, h100, hlt, hbw, hown => by
    have IH := Lib.hid (circleFrom_impl vg g hd1 w0 hg0 f)
    obtain ⟨hn, hrow⟩ := (vDebts_iff g).1 hd1
    have HRW := Lib.hid hrow
    have HLT := Lib.hid hlt
    have HOWN := Lib.hid hown
    have hg := hg0.below hbw
    have HG := Lib.hid hg
    obtain ⟨a, cap, rfl, _⟩ := id hg
    have hgl := (hown.lt gh rfl)
    have hl := hlt (hd.length - 1) (by omega)
    have h0 := hlt 0 hp
    have m0 : 0 ≤ (hd.length : Int) - 1 := by omega
    have m1 : (hd.length : Int) - 1 < (hd.length : Int) := by omega
    have m2 : ((hd.length : Int) - 1).toNat = hd.length - 1 := by omega
    have hp0 : (0 : Int) < (hd.length : Int) := by omega
    have cl := hown.cell (ti_length hd) (hd.length - 1) (by omega)
    have c0 := hown.cell (ti_length hd) 0 hp
    rw [ti_getD] at cl c0
    have hlr := (hrow _ hl).1
    have hzz := (hrow _ hl).2.1
    obtain ⟨b, off, ar, cr, rfl, cg, cc⟩ := hg.row _ hl
    obtain ⟨br, fr, rfl, ck⟩ := cc (hd.getD 0 0) (by omega)
    have g1 : ((hd.getD (hd.length - 1) 0 : Nat) : Int) < (g.length : Int) := by omega
    have g2 : ((hd.getD 0 0 : Nat) : Int) < (g.length : Int) := by omega
    rw [hlr] at cg
    have ECL : closes g hd = decide (0 < cellOf g (hd.getD (hd.length - 1) 0) (hd.getD 0 0)) := by
      unfold closes
      by_cases e : 1 < hd.length
      · rw [decide_eq_true e, Bool.true_and]
      · have e1 : hd.length = 1 := by omega
        rw [decide_eq_false e, Bool.false_and]
        rw [e1] at hzz ⊢
        simp only [Nat.sub_self] at hzz ⊢
        rw [hzz]; rfl
    have ENX : Hid (∀ b, nextOK g hd b = (!hd.contains b && decide (0 < cellOf g (hd.getD (hd.length - 1) 0) b))) := fun _ => rfl
    have ECF : Hid (circF g (f + 1) hd = if closes g hd = true then some hd else scanC g hd (circF g f) (g.length - (hd.getD 0 0 + 1)) (hd.getD 0 0 + 1)) := rfl
    have HROW : Hid (∀ w', Below w0.heap.size w0 w' → ∀ k, k < g.length → w'.cell? ⟨br, fr + k, none⟩ = some (.int .i64 (cellOf g (hd.getD (hd.length - 1) 0) k))) := fun w' hw' k hk => by
      obtain ⟨b', off', ar', cr', e1, ci', cc'⟩ := hg0.row _ hl
      obtain ⟨br', fr', e2, ck'⟩ := cc' k (by omega)
      have ciw := (hbw.cell (p := ⟨b', off' + hd.getD (hd.length - 1) 0, none⟩) (World.block_lt_of_cell? w0 _ ci')).trans ci'
      simp only [Option.some.injEq, Addr.mk.injEq, and_true] at e1
      obtain ⟨rfl, rfl⟩ := e1
      rw [cg] at ciw
      simp only [Option.some.injEq, Value.slice.injEq] at ciw
      rw [← ciw.1] at e2
      simp only [Option.some.injEq, Addr.mk.injEq, and_true] at e2
      obtain ⟨rfl, rfl⟩ := e2
      exact (hw'.cell (p := ⟨br, fr + k, none⟩) (World.block_lt_of_cell? w0 _ ck')).trans ck'
    have HNN : Hid (∀ k, k < g.length → 0 ≤ cellOf g (hd.getD (hd.length - 1) 0) k) := fun k hk => ((hrow _ hl).2.2 k hk).1
    have hLL : g.length ≤ 6 := hn.2
    have HFB := Lib.hid (freeN_le hd)
    clear hrow hlt cc hn hlr hzz hown hg
    generalize hat : hd.getD (hd.length - 1) 0 = at' at *
    generalize hz : hd.getD 0 0 = h00 at *
    by_cases hcl : 0 < cellOf g at' h00
    · have E : Hid (circF g (f + 1) hd = some hd) := by show _ = _; rw [ECF.out, ECL, decide_eq_true hcl]; rfl
      clear ECL
      generalize cellOf g at' h00 = cz at ck hcl
      go_enter Try.func96, Try.ntmps96
      go_wp2
      go_ret
      refine ⟨_, rfl, ?_, HOWN.out, World.grownBy.refl _ _⟩
      rw [E.out]
      have h := HOWN.out.ints
      exact ⟨h, hp⟩
    · have E : Hid (circF g (f + 1) hd = scanC g hd (circF g f) (g.length - (h00 + 1)) (h00 + 1)) := by
        show _ = _
        rw [ECF.out, ECL, decide_eq_false hcl]; rfl
      clear ECL
      generalize cellOf g at' h00 = cz at ck hcl
      go_enter Try.func96, Try.ntmps96
      go_wp2
      clear c0 cl cg ck
      go_loopw [6] (fun bv wr => ∃ q : Nat, h00 + 1 ≤ q ∧ q ≤ g.length ∧ bv = .int .i64 q ∧ scanC g hd (circF g f) (g.length - q) q = scanC g hd (circF g f) (g.length - (h00 + 1)) (h00 + 1) ∧ Own wr w0.heap.size (sl gh hd.length ch) (ti hd) ∧ w.grownBy wr (some gh)) (fun bv _ => g.length - (intOf bv).toNat)
      case atStart => exact ⟨h00 + 1, Nat.le_refl _, by omega, by go_num, rfl, HOWN.out, World.grownBy.refl _ _⟩
      case round =>
        obtain ⟨q, hq1, hq2, rfl, hsc, hown, hgr⟩ := hrel
        rename World => wo
        have HSC := Lib.hid hsc
        have hbo : Below w0.heap.size w0 wo := hbw.trans (below_grown hgr hbw.size (fun k hk => by cases hk; exact hgl.1))
        clear hsc
        by_cases hql : q < g.length
        · have q1 : (q : Int) < (g.length : Int) := by omega
          have ckq := HROW.out wo hbo q hql
          have hnn := HNN.out q hql
          have hsz : w0.heap.size ≤ wo.heap.size := hbo.size
          have HSTEP : Hid (scanC g hd (circF g f) (g.length - q) q = if nextOK g hd q = true then orC (circF g f (hd ++ [q])) (scanC g hd (circF g f) (g.length - (q + 1)) (q + 1)) else scanC g hd (circF g f) (g.length - (q + 1)) (q + 1)) := by
            show _ = _
            rw [show g.length - q = (g.length - (q + 1)) + 1 by omega, scanC]
          by_cases hz0 : cellOf g at' q = 0
          · have hcz : (cellOf g at' q == 0) = true := by simp [hz0]
            have HNX : Hid (scanC g hd (circF g f) (g.length - (q + 1)) (q + 1) = scanC g hd (circF g f) (g.length - (h00 + 1)) (h00 + 1)) := by
              show _ = _
              rw [← HSC.out, HSTEP.out, ENX.out q, hz0, decide_eq_false (by decide), Bool.and_false]
              rfl
            have HO := Lib.hid hown
            clear hz0 hown
            generalize cellOf g at' q = cq at ckq hcz hnn
            go_wp2
            go_roundw
            case rel => exact ⟨q + 1, by omega, by omega, by go_num, HNX.out, HO.out, hgr⟩
            case measure => simp [intOf]; omega
          · have hcz : (cellOf g at' q == 0) = false := beq_eq_false_iff_ne.2 hz0
            have hpos : decide (0 < cellOf g at' q) = true := decide_eq_true (by omega)
            have hct0 := Contains_impl (.slice (some ⟨gh, 0, none⟩) hd.length ch) (ti hd) (q : Int) wo (by have h := hown.ints; exact h) (by rw [ti_length]; omega)
            rw [ti_contains] at hct0
            have HNX0 := ENX.out q
            rw [hpos, Bool.and_true] at HNX0
            have HNX1 := Lib.hid HNX0
            clear hz0 HNX0 hpos
            generalize cellOf g at' q = cq at ckq hcz hnn
            cases hct : hd.contains q
            · have HNX : Hid (nextOK g hd q = true) := by show _ = _; rw [HNX1.out, hct]; rfl
              rw [hct] at hct0
              have HCT := Lib.hid hct0
              have HFR : Hid (freeN (hd ++ [q]) g.length + 1 ≤ freeN hd g.length) := by
                show _ ≤ _
                have h := HFB.out q g.length
                rw [if_pos ⟨hql, hct⟩] at h
                exact h
              have q28 : ∀ (w : World) (a : Option Addr) (n c : Nat), (binOp .neq 28 (.slice a n c) (.slice none 0 0)).run Try.prog w = .ok (.bool (!a.isNone)) w := fun w a n c => run_neq_slice_nil w _ _ a n c Try.underlying28
              have hlen : (hd ++ [q]).length = hd.length + 1 := by simp
              have HLTQ : Hid (∀ i, i < (hd ++ [q]).length → (hd ++ [q]).getD i 0 < g.length) := fun i hi => by
                by_cases e : i < hd.length
                · rw [getD_snoc_ltN e]; exact HLT.out i e
                · have : i = hd.length := by omega
                  subst this
                  rw [getD_snoc_eqN]; exact hql
              have h6 : hd.length ≤ 1048576 := by omega
              have HLEN := Lib.hid hlen
              clear hct0 hct HNX1 hlen
              go_wp2_with (first | (go_at_call 100; refine HCT.out.mono ?_; rintro e w' ⟨rfl, rfl⟩) | (at_builtin; refine wpList_push_keep (y := (q : Int)) hown (ti_length hd) h6 hsz (h := ?_)))
              intro g' cap' w4 o4 o4b gr4 loc
              rw [← ti_snoc] at o4
              have hb4 : Below w0.heap.size w0 w4 := hbo.trans (below_grown gr4 hbo.size (fun k hk => by cases hk; exact hgl.1))
              have hih := IH.out (hd ++ [q]) g' cap' w4 (by have := HFR.out; omega) (by simp) (by have := HFR.out; have := HLEN.out; omega) HLTQ.out hb4 (by rw [HLEN.out]; exact o4)
              rw [HLEN.out] at hih
              have HIH := Lib.hid hih
              have HFIN : Hid (∀ w5, Own w5 w0.heap.size (sl g' (hd.length + 1) cap') (ti (hd ++ [q])) → w4.grownBy w5 (some g') → Own w5 w0.heap.size (sl gh hd.length ch) (ti hd) ∧ wo.grownBy w5 (some gh)) := fun w5 h5 gr5 => by
                rcases loc with ⟨rfl, rfl⟩ | hnew
                · rw [ti_snoc] at h5
                  exact ⟨h5.init (ti_length hd), gr4.trans gr5⟩
                · have hgo := (hown.lt gh rfl).2
                  exact ⟨o4b.kept gr5 (.inr (by simp [Value.ownBlock]; omega)), gr4.andThen gr5 (fun j hj => .inl (by cases hj; exact hnew))⟩
              clear hih o4 o4b gr4 loc hown ckq
              cases hcf : circF g f (hd ++ [q]) with
              | none =>
                have HNX2 : Hid (scanC g hd (circF g f) (g.length - (q + 1)) (q + 1) = scanC g hd (circF g f) (g.length - (h00 + 1)) (h00 + 1)) := by
                  show _ = _
                  rw [← HSC.out, HSTEP.out, if_pos HNX.out, hcf]; rfl
                have h := HIH.out
                rw [hcf] at h
                have HI2 := Lib.hid h
                clear h hcf
                go_wp2_with fail
                refine HI2.out.mono ?_
                rintro e w5 ⟨v5, rfl, hv5, o5, gr5⟩
                have hv5' : v5 = .slice none 0 0 := hv5
                subst hv5'
                have h5 := HFIN.out w5 o5 gr5
                have O5 := Lib.hid h5.1
                have hgr5 : w.grownBy w5 (some gh) := hgr.trans h5.2
                clear hv5 o5 gr5 h5
                go_wp2
                go_roundw
                case rel => exact ⟨q + 1, by omega, by omega, by go_num, HNX2.out, O5.out, hgr5⟩
                case measure => simp [intOf]; omega
              | some t =>
                have E2 : Hid (circF g (f + 1) hd = some t) := by
                  show _ = _
                  rw [E.out, ← HSC.out, HSTEP.out, if_pos HNX.out, hcf]; rfl
                have h := HIH.out
                rw [hcf] at h
                have HI2 := Lib.hid h
                clear h hcf
                go_wp2_with fail
                refine HI2.out.mono ?_
                rintro e w5 ⟨v5, rfl, hv5, o5, gr5⟩
                obtain ⟨hi5, ht5⟩ : IsInts w5 v5 (ti t) ∧ 0 < t.length := hv5
                have HI5 := Lib.hid hi5
                obtain ⟨a5, c5, rfl, hc5⟩ := hi5
                obtain ⟨b5, f5, rfl, _⟩ := hc5 0 (by rw [ti_length]; exact ht5)
                have h5 := HFIN.out w5 o5 gr5
                have O5 := Lib.hid h5.1
                have hgr5 : w.grownBy w5 (some gh) := hgr.trans h5.2
                clear o5 gr5 h5 hc5
                go_wp2
                go_ret
                exact ⟨_, rfl, by rw [E2.out]; exact ⟨HI5.out, ht5⟩, O5.out, hgr5⟩
            · rw [hct] at hct0
              have HCT := Lib.hid hct0
              have HNX : Hid (scanC g hd (circF g f) (g.length - (q + 1)) (q + 1) = scanC g hd (circF g f) (g.length - (h00 + 1)) (h00 + 1)) := by
                show _ = _
                rw [← HSC.out, HSTEP.out, HNX1.out, hct]; rfl
              have HO := Lib.hid hown
              clear hct0 hct hown
              go_wp2_with (go_at_call 100; refine HCT.out.mono ?_; rintro e w' ⟨rfl, rfl⟩)
              go_roundw
              case rel => exact ⟨q + 1, by omega, by omega, by go_num, HNX.out, HO.out, hgr⟩
              case measure => simp [intOf]; omega
        · have hqe : q = g.length := by omega
          subst hqe
          have E2 : Hid (circF g (f + 1) hd = none) := by
            show _ = _
            rw [E.out, ← HSC.out, Nat.sub_self]; rfl
          have HO := Lib.hid hown
          clear hown
          go_wp2
          go_ret
          exact ⟨_, rfl, by rw [E2.out]; rfl, HO.out, hgr⟩

end Go.Proofs.Ytbedjebnllimpaa
