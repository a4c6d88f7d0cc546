/- Circles of debts, in the model: the walk. -/
import Derived.Test.YtbedjebnllimpaaCircM
import Derived.IntWalk
namespace Go.Proofs.Ytbedjebnllimpaa
open Go.RowKit

theorem contains_take (hd : List Nat) (b i : Nat) (hi : i < hd.length) : (hd.take (i + 1)).contains b = ((hd.take i).contains b || decide (hd.getD i 0 = b)) := by
  rw [List.take_succ_eq_append_getElem hi]
  have : hd[i] = hd.getD i 0 := by simp [List.getD, hi]
  rw [this]
  generalize hd.getD i 0 = z
  by_cases h : b = z
  · simp [h]
  · have h2 : ¬ z = b := fun e => h e.symm
    simp [h, h2]

set_option maxRecDepth 100000 in
set_option maxHeartbeats 6400000 in
theorem circle_spec (vg : Value) (g : List (List Int)) (hd1 : vDebts g = true) : ∀ (f : Nat) (hd : List Nat) (hv : Value) (w : World), freeN hd g.length < f → 0 < hd.length → hd.length + freeN hd g.length ≤ 100 → (∀ i, i < hd.length → hd.getD i 0 < g.length) → IsGrid w vg g → IsInts w hv (ti hd) →
    Calls Try.prog 74 #[vg, hv] w fun e w' => ∃ v', e = .returned v' ∧ IsInts w' v' (ti ((circF g f hd).getD [])) ∧ (∀ k, v'.ownBlock = some k → w.heap.size ≤ k ∨ hv.ownBlock = some k) ∧ Below w.heap.size w w'
  | 0, hd, hv, w, hf, _, _, _, _, _ => absurd hf (Nat.not_lt_zero _)
  | f + 1, hd, hv, w, hf, hp, h100, hlt, hg, hi => by
    have IH := Lib.hid (circle_spec vg g hd1 f)
    obtain ⟨hn, hrow⟩ := (vDebts_iff g).1 hd1
    have HRW := Lib.hid hrow
    have HG := Lib.hid hg
    have HI := Lib.hid hi
    have HLT := Lib.hid hlt
    obtain ⟨a, cap, rfl, _⟩ := id hg
    obtain ⟨ah, ch, rfl, hch⟩ := id hi
    rw [ti_length] at hch ⊢
    have HCH := Lib.hid hch
    have hl := hlt (hd.length - 1) (by omega)
    have h0 := hlt 0 hp
    have m0 : 0 ≤ (hd.length : Int) - 1 := by omega
    have m1 : (hd.length : Int) - 1 < (hd.length : Int) := by omega
    have m2 : ((hd.length : Int) - 1).toNat = hd.length - 1 := by omega
    have hp0 : (0 : Int) < (hd.length : Int) := by omega
    obtain ⟨bh, fh, rfl, cl⟩ := hch (hd.length - 1) (by omega)
    obtain ⟨bh2, fh2, eh, c0⟩ := hch 0 hp
    simp only [Option.some.injEq, Addr.mk.injEq, and_true] at eh
    obtain ⟨rfl, rfl⟩ := eh
    rw [ti_getD] at cl c0
    rw [Nat.add_zero] at c0
    have hlr := (hrow _ hl).1
    obtain ⟨b, off, ar, cr, rfl, cg, cc⟩ := hg.row _ hl
    obtain ⟨br, fr, rfl, ck⟩ := cc (hd.getD 0 0) (by omega)
    have g1 : ((hd.getD (hd.length - 1) 0 : Nat) : Int) < (g.length : Int) := by omega
    have g2 : ((hd.getD 0 0 : Nat) : Int) < ((rowOf g (hd.getD (hd.length - 1) 0)).length : Int) := by omega
    have ECL : Hid (closes g hd = (decide (1 < hd.length) && decide (0 < cellOf g (hd.getD (hd.length - 1) 0) (hd.getD 0 0)))) := rfl
    have ENX : Hid (∀ b, nextOK g hd b = (!hd.contains b && decide (0 < cellOf g (hd.getD (hd.length - 1) 0) b))) := fun _ => rfl
    have ECF : Hid (circF g (f + 1) hd = if closes g hd = true then some hd else scanC g hd (circF g f) (g.length - (hd.getD 0 0 + 1)) (hd.getD 0 0 + 1)) := rfl
    have HROW : Hid (∀ w', Below w.heap.size w w' → w'.cell? ⟨b, off + hd.getD (hd.length - 1) 0, none⟩ = some (.slice (some ⟨br, fr, none⟩) (rowOf g (hd.getD (hd.length - 1) 0)).length cr) ∧ ∀ k, k < g.length → w'.cell? ⟨br, fr + k, none⟩ = some (.int .i64 (cellOf g (hd.getD (hd.length - 1) 0) k))) := fun w' hw' => by
      refine ⟨(hw'.cell (p := ⟨b, off + hd.getD (hd.length - 1) 0, none⟩) (World.block_lt_of_cell? w _ cg)).trans cg, fun k hk => ?_⟩
      obtain ⟨br2, fr2, e2, ck2⟩ := cc k (by omega)
      simp only [Option.some.injEq, Addr.mk.injEq, and_true] at e2
      obtain ⟨rfl, rfl⟩ := e2
      exact (hw'.cell (p := ⟨br, fr + k, none⟩) (World.block_lt_of_cell? w _ ck2)).trans ck2
    have HLR := Lib.hid hlr
    have hLL : g.length ≤ 6 := hn.2
    have HFB := Lib.hid (freeN_le hd)
    clear hrow hg hi hlt hch cc hn hlr
    generalize hat : hd.getD (hd.length - 1) 0 = at' at *
    generalize hz : hd.getD 0 0 = h00 at *
    by_cases hcl : 1 < hd.length ∧ 0 < cellOf g at' h00
    · obtain ⟨k1, k2⟩ := hcl
      have k1i : (1 : Int) < (hd.length : Int) := by omega
      have d1 : decide ((1 : Int) < (hd.length : Int)) = true := decide_eq_true k1i
      have d2 : decide (0 < cellOf g at' h00) = true := decide_eq_true k2
      have E : Hid (circF g (f + 1) hd = some hd) := by show _ = _; rw [ECF.out, ECL.out, d2, decide_eq_true k1]; rfl
      generalize cellOf g at' h00 = cz at ck d2 k2
      go_enter Try.func74, Try.ntmps74
      go_wp2
      go_quiet (fail)
      go_wp2
      go_ret
      have hb := below_drewN (Below.refl w.heap.size w) nq
      refine ⟨_, rfl, ?_, fun k hk => .inr hk, hb⟩
      rw [E.out]
      have h := HI.out.below hb
      rw [ti_length] at h
      exact h
    · have E : Hid (circF g (f + 1) hd = scanC g hd (circF g f) (g.length - (h00 + 1)) (h00 + 1)) := by
        show _ = _
        rw [ECF.out, ECL.out, if_neg (by rw [Bool.and_eq_true, decide_eq_true_iff, decide_eq_true_iff]; exact hcl)]
      by_cases k1 : 1 < hd.length
      · have k1i : (1 : Int) < (hd.length : Int) := by omega
        have d1 : decide ((1 : Int) < (hd.length : Int)) = true := decide_eq_true k1i
        have d2 : decide (0 < cellOf g at' h00) = false := decide_eq_false (fun h => hcl ⟨k1, h⟩)
        have d2' : ¬ (0 < cellOf g at' h00) := fun h => hcl ⟨k1, h⟩
        clear hcl
        generalize cellOf g at' h00 = cz at ck d2 d2'
        go_enter Try.func74, Try.ntmps74
        go_wp2
        go_quiet (fail)
        have hb := below_drewN (Below.refl w.heap.size w) nq
        have c0' : (w.drewN nq).cell? ⟨bh, fh, none⟩ = some (.int .i64 (h00 : Nat)) := c0
        generalize w.drewN nq = w1 at *
        clear c0 cl cg ck
        go_wp2
        go_loopw [6, 7, 8, 9] (fun bv _ _ _ wr => ∃ q : Nat, h00 + 1 ≤ q ∧ q ≤ g.length ∧ bv = .int .i64 q ∧ scanC g hd (circF g f) (g.length - q) q = scanC g hd (circF g f) (g.length - (h00 + 1)) (h00 + 1) ∧ Below w.heap.size w wr) (fun bv _ _ _ _ => g.length - (intOf bv).toNat)
        case atStart => exact ⟨h00 + 1, Nat.le_refl _, by omega, by go_num, rfl, hb⟩
        case round =>
          obtain ⟨q, hq1, hq2, rfl, hsc, hbl⟩ := hrel
          rename World => wo
          have HSC := Lib.hid hsc
          clear hsc hb c0'
          by_cases hql : q < g.length
          · have q1 : (q : Int) < (g.length : Int) := by omega
            obtain ⟨cg, ckk⟩ := HROW.out wo hbl
            have ckq := ckk q hql
            have q2 : (q : Int) < ((rowOf g at').length : Int) := by rw [HLR.out]; omega
            have HIW := HI.out.below hbl
            obtain ⟨ah2, ch2, eh2, hcw⟩ := HIW
            simp only [Value.slice.injEq, true_and] at eh2
            obtain ⟨rfl, rfl⟩ := eh2
            rw [ti_length] at hcw
            have HCW := Lib.hid hcw
            have hstep : scanC g hd (circF g f) (g.length - q) q = if nextOK g hd q = true then orC (circF g f (hd ++ [q])) (scanC g hd (circF g f) (g.length - (q + 1)) (q + 1)) else scanC g hd (circF g f) (g.length - (q + 1)) (q + 1) := by
              rw [show g.length - q = (g.length - (q + 1)) + 1 by omega, scanC]
            have HSTEP := Lib.hid hstep
            clear hstep hcw ckk
            go_wp2
            go_loop [7, 8] (fun uv iv => ∃ i : Nat, i ≤ hd.length ∧ iv = .int .i64 i ∧ uv = .bool ((hd.take i).contains q)) (fun _ iv => hd.length - (intOf iv).toNat)
            case atStart => exact ⟨0, Nat.zero_le _, rfl, rfl⟩
            case round =>
              obtain ⟨i, hi1, rfl, rfl⟩ := hrel
              by_cases hil : i < hd.length
              · have i1 : (i : Int) < (hd.length : Int) := by omega
                obtain ⟨bx, fx, ex, cx⟩ := HCW.out i hil
                simp only [Option.some.injEq, Addr.mk.injEq, and_true] at ex
                obtain ⟨rfl, rfl⟩ := ex
                rw [ti_getD] at cx
                have HCT := Lib.hid (contains_take hd q i hil)
                generalize hd.getD i 0 = z at cx HCT
                cases hu : (hd.take i).contains q
                · by_cases hzq : z = q
                  · have hzz : ((z : Int) == (q : Int)) = true := by simp [hzq]
                    have HR : Hid ((hd.take (i + 1)).contains q = true) := by show _ = _; rw [HCT.out, decide_eq_true hzq, Bool.or_true]
                    clear hzq
                    go_wp2
                    go_round
                    case rel => exact ⟨i + 1, by omega, by go_num, by rw [HR.out]⟩
                    case measure => simp [intOf]; omega
                  · have hzz : ((z : Int) == (q : Int)) = false := by simp; omega
                    have HR : Hid ((hd.take (i + 1)).contains q = false) := by show _ = _; rw [HCT.out, decide_eq_false hzq, hu]; rfl
                    clear hzq
                    go_wp2
                    go_round
                    case rel => exact ⟨i + 1, by omega, by go_num, by rw [HR.out]⟩
                    case measure => simp [intOf]; omega
                · have HR : Hid ((hd.take (i + 1)).contains q = true) := by show _ = _; rw [HCT.out, hu]; rfl
                  go_wp2
                  go_round
                  case rel => exact ⟨i + 1, by omega, by go_num, by rw [HR.out]⟩
                  case measure => simp [intOf]; omega
              · have hie : i = hd.length := by omega
                subst hie
                have htk : hd.take hd.length = hd := List.take_length
                rw [htk]
                by_cases hnx : hd.contains q = false ∧ 0 < cellOf g at' q
                · obtain ⟨hc, hpos⟩ := hnx
                  have hd0 : decide (0 < cellOf g at' q) = true := decide_eq_true hpos
                  have HS2 : Hid (orC (circF g f (hd ++ [q])) (scanC g hd (circF g f) (g.length - (q + 1)) (q + 1)) = scanC g hd (circF g f) (g.length - (h00 + 1)) (h00 + 1)) := by
                    show _ = _; rw [← HSC.out, HSTEP.out, if_pos (by rw [ENX.out, hc, hd0]; rfl)]
                  have hfr := HFB.out q g.length
                  rw [if_pos (show q < g.length ∧ hd.contains q = false from ⟨hql, hc⟩)] at hfr
                  have oe := own_empty wo wo.heap.size (Nat.le_refl _)
                  have bE : Below wo.heap.size wo (wo.alloc (.cells #[] 3)) := (Below.refl _ _).alloc (Nat.le_refl _) _
                  have r1 := HI.out.below (hbl.trans (bE.mono hbl.size))
                  rw [ti_length] at r1
                  have hsE : wo.heap.size ≤ (wo.alloc (.cells #[] 3)).heap.size := bE.size
                  rw [hc]
                  clear HSC HSTEP
                  generalize cellOf g at' q = cq at ckq hd0 hpos
                  go_wp2_with (at_builtin; refine wpList_spread oe r1 (by rw [ti_length]; exact hp) (by rw [ti_length]; simp; omega) hsE (h := ?_))
                  intro rv w2 o2 g2 m2
                  have b2 : Below wo.heap.size wo w2 := bE.trans (below_grown g2 hsE (fun k hk => by simp [Value.ownBlock] at hk; omega))
                  have hs2 : wo.heap.size ≤ w2.heap.size := b2.size
                  go_wp2_with (at_builtin; refine wpList_push o2 (by rw [ti_length]; omega) hs2 (h := ?_))
                  intro nv w3 o3 g3 m3
                  have b3 : Below wo.heap.size wo w3 := b2.trans (below_grown g3 hs2 (fun k hk => (o2.lt k hk).1))
                  rw [← ti_snoc] at o3
                  have bA : Below w.heap.size w w3 := hbl.trans (b3.mono hbl.size)
                  have hcall := IH.out (hd ++ [q]) nv w3 (by omega) (by simp) (by rw [List.length_append]; simp; omega) (fun k hk => by
                    by_cases e : k < hd.length
                    · have := HLT.out k e
                      rw [List.getD_eq_getElem?_getD, List.getElem?_append_left e, ← List.getD_eq_getElem?_getD]; exact this
                    · have e2 : k = hd.length := by simp at hk; omega
                      subst e2
                      simp [List.getD]; exact hql) (HG.out.below bA) o3.ints
                  have HCALL := Lib.hid hcall
                  have hnv : ∀ k, nv.ownBlock = some k → w.heap.size ≤ k := fun k hk => Nat.le_trans hbl.size (o3.lt k hk).1
                  have HNV := Lib.hid hnv
                  have HPOS := Lib.hid (circF_pos (g := g) f (hd ++ [q]))
                  clear hcall hnv oe r1 o2 g2 m2 o3 g3 m3 b2 hfr bE
                  go_wp2_with fail
                  refine HCALL.out.mono ?_
                  rintro e w4 ⟨v4, rfl, i4, l4, b4⟩
                  have HL4 : Hid (∀ k, v4.ownBlock = some k → w.heap.size ≤ k) := fun k hk => by
                    rcases l4 k hk with h | h
                    · exact Nat.le_trans bA.size h
                    · exact HNV.out k h
                  clear l4
                  have b5 : Below w.heap.size w w4 := bA.trans (b4.mono bA.size)
                  cases hR : circF g f (hd ++ [q]) with
                  | some t =>
                    rw [hR] at i4
                    rw [Option.getD_some] at i4
                    have ht := HPOS.out t (by simp) hR
                    have E4 : Hid (circF g (f + 1) hd = some t) := by show _ = _; rw [E.out, ← HS2.out, hR]; rfl
                    have I4 := Lib.hid i4
                    obtain ⟨a4, c4, rfl, _⟩ := i4
                    rw [ti_length] at I4 HL4 ⊢
                    have ht4 : (0 : Int) < (t.length : Int) := by omega
                    clear hR HPOS HCALL
                    go_wp2
                    go_ret
                    exact ⟨_, rfl, by rw [E4.out]; exact I4.out, fun k hk => .inl (HL4.out k hk), b5⟩
                  | none =>
                    rw [hR] at i4
                    have HS3 : Hid (scanC g hd (circF g f) (g.length - (q + 1)) (q + 1) = scanC g hd (circF g f) (g.length - (h00 + 1)) (h00 + 1)) := by show _ = _; rw [← HS2.out, hR]; rfl
                    have i5 : IsInts w4 v4 [] := i4
                    obtain ⟨a4, c4, e4, _⟩ := i5
                    rw [List.length_nil] at e4
                    subst e4
                    clear hR HPOS HCALL HS2 i4
                    go_wp2
                    go_roundw
                    case rel => exact ⟨q + 1, by omega, by omega, by go_num, HS3.out, b5⟩
                    case measure => simp [intOf]; omega
                · have HS2 : Hid (scanC g hd (circF g f) (g.length - (q + 1)) (q + 1) = scanC g hd (circF g f) (g.length - (h00 + 1)) (h00 + 1)) := by
                    show _ = _
                    rw [← HSC.out, HSTEP.out, if_neg (by
                      rw [ENX.out, Bool.and_eq_true, decide_eq_true_iff]
                      intro h
                      exact hnx ⟨by simpa using h.1, h.2⟩)]
                  clear HSC HSTEP
                  cases hc : hd.contains q
                  · have hd0 : ¬ (0 < cellOf g at' q) := fun h => hnx ⟨hc, h⟩
                    have hd1 : decide (0 < cellOf g at' q) = false := decide_eq_false hd0
                    clear hnx
                    generalize cellOf g at' q = cq at ckq hd0 hd1
                    go_wp2
                    go_roundw
                    case rel => exact ⟨q + 1, by omega, by omega, by go_num, HS2.out, hbl⟩
                    case measure => simp [intOf]; omega
                  · clear hnx
                    go_wp2
                    go_roundw
                    case rel => exact ⟨q + 1, by omega, by omega, by go_num, HS2.out, hbl⟩
                    case measure => simp [intOf]; omega
          · have hqe : q = g.length := by omega
            have E5 : Hid (circF g (f + 1) hd = none) := by show _ = _; rw [E.out, ← HSC.out, hqe, Nat.sub_self]; rfl
            clear HSC
            go_wp2
            go_ret
            exact ⟨_, rfl, by rw [E5.out]; exact ⟨none, 0, rfl, fun j hj => by simp [ti] at hj⟩, fun k hk => (by cases hk), hbl⟩

      · have d1 : decide ((1 : Int) < (hd.length : Int)) = false := decide_eq_false (by omega)
        clear hcl
        go_enter Try.func74, Try.ntmps74
        go_wp2
        go_quiet (fail)
        have hb := below_drewN (Below.refl w.heap.size w) nq
        have c0' : (w.drewN nq).cell? ⟨bh, fh, none⟩ = some (.int .i64 (h00 : Nat)) := c0
        generalize w.drewN nq = w1 at *
        clear c0 cl cg ck
        go_wp2
        go_loopw [6, 7, 8, 9] (fun bv _ _ _ wr => ∃ q : Nat, h00 + 1 ≤ q ∧ q ≤ g.length ∧ bv = .int .i64 q ∧ scanC g hd (circF g f) (g.length - q) q = scanC g hd (circF g f) (g.length - (h00 + 1)) (h00 + 1) ∧ Below w.heap.size w wr) (fun bv _ _ _ _ => g.length - (intOf bv).toNat)
        case atStart => exact ⟨h00 + 1, Nat.le_refl _, by omega, by go_num, rfl, hb⟩
        case round =>
          obtain ⟨q, hq1, hq2, rfl, hsc, hbl⟩ := hrel
          rename World => wo
          have HSC := Lib.hid hsc
          clear hsc hb c0'
          by_cases hql : q < g.length
          · have q1 : (q : Int) < (g.length : Int) := by omega
            obtain ⟨cg, ckk⟩ := HROW.out wo hbl
            have ckq := ckk q hql
            have q2 : (q : Int) < ((rowOf g at').length : Int) := by rw [HLR.out]; omega
            have HIW := HI.out.below hbl
            obtain ⟨ah2, ch2, eh2, hcw⟩ := HIW
            simp only [Value.slice.injEq, true_and] at eh2
            obtain ⟨rfl, rfl⟩ := eh2
            rw [ti_length] at hcw
            have HCW := Lib.hid hcw
            have hstep : scanC g hd (circF g f) (g.length - q) q = if nextOK g hd q = true then orC (circF g f (hd ++ [q])) (scanC g hd (circF g f) (g.length - (q + 1)) (q + 1)) else scanC g hd (circF g f) (g.length - (q + 1)) (q + 1) := by
              rw [show g.length - q = (g.length - (q + 1)) + 1 by omega, scanC]
            have HSTEP := Lib.hid hstep
            clear hstep hcw ckk
            go_wp2
            go_loop [7, 8] (fun uv iv => ∃ i : Nat, i ≤ hd.length ∧ iv = .int .i64 i ∧ uv = .bool ((hd.take i).contains q)) (fun _ iv => hd.length - (intOf iv).toNat)
            case atStart => exact ⟨0, Nat.zero_le _, rfl, rfl⟩
            case round =>
              obtain ⟨i, hi1, rfl, rfl⟩ := hrel
              by_cases hil : i < hd.length
              · have i1 : (i : Int) < (hd.length : Int) := by omega
                obtain ⟨bx, fx, ex, cx⟩ := HCW.out i hil
                simp only [Option.some.injEq, Addr.mk.injEq, and_true] at ex
                obtain ⟨rfl, rfl⟩ := ex
                rw [ti_getD] at cx
                have HCT := Lib.hid (contains_take hd q i hil)
                generalize hd.getD i 0 = z at cx HCT
                cases hu : (hd.take i).contains q
                · by_cases hzq : z = q
                  · have hzz : ((z : Int) == (q : Int)) = true := by simp [hzq]
                    have HR : Hid ((hd.take (i + 1)).contains q = true) := by show _ = _; rw [HCT.out, decide_eq_true hzq, Bool.or_true]
                    clear hzq
                    go_wp2
                    go_round
                    case rel => exact ⟨i + 1, by omega, by go_num, by rw [HR.out]⟩
                    case measure => simp [intOf]; omega
                  · have hzz : ((z : Int) == (q : Int)) = false := by simp; omega
                    have HR : Hid ((hd.take (i + 1)).contains q = false) := by show _ = _; rw [HCT.out, decide_eq_false hzq, hu]; rfl
                    clear hzq
                    go_wp2
                    go_round
                    case rel => exact ⟨i + 1, by omega, by go_num, by rw [HR.out]⟩
                    case measure => simp [intOf]; omega
                · have HR : Hid ((hd.take (i + 1)).contains q = true) := by show _ = _; rw [HCT.out, hu]; rfl
                  go_wp2
                  go_round
                  case rel => exact ⟨i + 1, by omega, by go_num, by rw [HR.out]⟩
                  case measure => simp [intOf]; omega
              · have hie : i = hd.length := by omega
                subst hie
                have htk : hd.take hd.length = hd := List.take_length
                rw [htk]
                by_cases hnx : hd.contains q = false ∧ 0 < cellOf g at' q
                · obtain ⟨hc, hpos⟩ := hnx
                  have hd0 : decide (0 < cellOf g at' q) = true := decide_eq_true hpos
                  have HS2 : Hid (orC (circF g f (hd ++ [q])) (scanC g hd (circF g f) (g.length - (q + 1)) (q + 1)) = scanC g hd (circF g f) (g.length - (h00 + 1)) (h00 + 1)) := by
                    show _ = _; rw [← HSC.out, HSTEP.out, if_pos (by rw [ENX.out, hc, hd0]; rfl)]
                  have hfr := HFB.out q g.length
                  rw [if_pos (show q < g.length ∧ hd.contains q = false from ⟨hql, hc⟩)] at hfr
                  have oe := own_empty wo wo.heap.size (Nat.le_refl _)
                  have bE : Below wo.heap.size wo (wo.alloc (.cells #[] 3)) := (Below.refl _ _).alloc (Nat.le_refl _) _
                  have r1 := HI.out.below (hbl.trans (bE.mono hbl.size))
                  rw [ti_length] at r1
                  have hsE : wo.heap.size ≤ (wo.alloc (.cells #[] 3)).heap.size := bE.size
                  rw [hc]
                  clear HSC HSTEP
                  generalize cellOf g at' q = cq at ckq hd0 hpos
                  go_wp2_with (at_builtin; refine wpList_spread oe r1 (by rw [ti_length]; exact hp) (by rw [ti_length]; simp; omega) hsE (h := ?_))
                  intro rv w2 o2 g2 m2
                  have b2 : Below wo.heap.size wo w2 := bE.trans (below_grown g2 hsE (fun k hk => by simp [Value.ownBlock] at hk; omega))
                  have hs2 : wo.heap.size ≤ w2.heap.size := b2.size
                  go_wp2_with (at_builtin; refine wpList_push o2 (by rw [ti_length]; omega) hs2 (h := ?_))
                  intro nv w3 o3 g3 m3
                  have b3 : Below wo.heap.size wo w3 := b2.trans (below_grown g3 hs2 (fun k hk => (o2.lt k hk).1))
                  rw [← ti_snoc] at o3
                  have bA : Below w.heap.size w w3 := hbl.trans (b3.mono hbl.size)
                  have hcall := IH.out (hd ++ [q]) nv w3 (by omega) (by simp) (by rw [List.length_append]; simp; omega) (fun k hk => by
                    by_cases e : k < hd.length
                    · have := HLT.out k e
                      rw [List.getD_eq_getElem?_getD, List.getElem?_append_left e, ← List.getD_eq_getElem?_getD]; exact this
                    · have e2 : k = hd.length := by simp at hk; omega
                      subst e2
                      simp [List.getD]; exact hql) (HG.out.below bA) o3.ints
                  have HCALL := Lib.hid hcall
                  have hnv : ∀ k, nv.ownBlock = some k → w.heap.size ≤ k := fun k hk => Nat.le_trans hbl.size (o3.lt k hk).1
                  have HNV := Lib.hid hnv
                  have HPOS := Lib.hid (circF_pos (g := g) f (hd ++ [q]))
                  clear hcall hnv oe r1 o2 g2 m2 o3 g3 m3 b2 hfr bE
                  go_wp2_with fail
                  refine HCALL.out.mono ?_
                  rintro e w4 ⟨v4, rfl, i4, l4, b4⟩
                  have HL4 : Hid (∀ k, v4.ownBlock = some k → w.heap.size ≤ k) := fun k hk => by
                    rcases l4 k hk with h | h
                    · exact Nat.le_trans bA.size h
                    · exact HNV.out k h
                  clear l4
                  have b5 : Below w.heap.size w w4 := bA.trans (b4.mono bA.size)
                  cases hR : circF g f (hd ++ [q]) with
                  | some t =>
                    rw [hR] at i4
                    rw [Option.getD_some] at i4
                    have ht := HPOS.out t (by simp) hR
                    have E4 : Hid (circF g (f + 1) hd = some t) := by show _ = _; rw [E.out, ← HS2.out, hR]; rfl
                    have I4 := Lib.hid i4
                    obtain ⟨a4, c4, rfl, _⟩ := i4
                    rw [ti_length] at I4 HL4 ⊢
                    have ht4 : (0 : Int) < (t.length : Int) := by omega
                    clear hR HPOS HCALL
                    go_wp2
                    go_ret
                    exact ⟨_, rfl, by rw [E4.out]; exact I4.out, fun k hk => .inl (HL4.out k hk), b5⟩
                  | none =>
                    rw [hR] at i4
                    have HS3 : Hid (scanC g hd (circF g f) (g.length - (q + 1)) (q + 1) = scanC g hd (circF g f) (g.length - (h00 + 1)) (h00 + 1)) := by show _ = _; rw [← HS2.out, hR]; rfl
                    have i5 : IsInts w4 v4 [] := i4
                    obtain ⟨a4, c4, e4, _⟩ := i5
                    rw [List.length_nil] at e4
                    subst e4
                    clear hR HPOS HCALL HS2 i4
                    go_wp2
                    go_roundw
                    case rel => exact ⟨q + 1, by omega, by omega, by go_num, HS3.out, b5⟩
                    case measure => simp [intOf]; omega
                · have HS2 : Hid (scanC g hd (circF g f) (g.length - (q + 1)) (q + 1) = scanC g hd (circF g f) (g.length - (h00 + 1)) (h00 + 1)) := by
                    show _ = _
                    rw [← HSC.out, HSTEP.out, if_neg (by
                      rw [ENX.out, Bool.and_eq_true, decide_eq_true_iff]
                      intro h
                      exact hnx ⟨by simpa using h.1, h.2⟩)]
                  clear HSC HSTEP
                  cases hc : hd.contains q
                  · have hd0 : ¬ (0 < cellOf g at' q) := fun h => hnx ⟨hc, h⟩
                    have hd1 : decide (0 < cellOf g at' q) = false := decide_eq_false hd0
                    clear hnx
                    generalize cellOf g at' q = cq at ckq hd0 hd1
                    go_wp2
                    go_roundw
                    case rel => exact ⟨q + 1, by omega, by omega, by go_num, HS2.out, hbl⟩
                    case measure => simp [intOf]; omega
                  · clear hnx
                    go_wp2
                    go_roundw
                    case rel => exact ⟨q + 1, by omega, by omega, by go_num, HS2.out, hbl⟩
                    case measure => simp [intOf]; omega
          · have hqe : q = g.length := by omega
            have E5 : Hid (circF g (f + 1) hd = none) := by show _ = _; rw [E.out, ← HSC.out, hqe, Nat.sub_self]; rfl
            clear HSC
            go_wp2
            go_ret
            exact ⟨_, rfl, by rw [E5.out]; exact ⟨none, 0, rfl, fun j hj => by simp [ti] at hj⟩, fun k hk => (by cases hk), hbl⟩


end Go.Proofs.Ytbedjebnllimpaa
