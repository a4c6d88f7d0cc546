/- The law FnShareBySums: the walk. -/
import Derived.Test.YtlibfmbbchhjeaaShares
import Derived.Test.YtlibfmbbchhjeaaOwnH
import Derived.Test.YtlibfmbbchhjeaaDraws
import Derived.Test.YtlibfmbbchhjeaaSumsM
import Derived.Test.YtlibfmbbchhjeaaSpread
import Derived.Test.YtlibfmbbchhjeaaEqQuiet
import Derived.Test.YtlibfmbbchhjeaaLShareByRest
import Derived.Test.YtlibfmbbchhjeaaDrawFair
import Derived.Deep.RegionHeld3
import Derived.Deep.AppendLies
import Derived.Outline
namespace Go.Proofs.Ytlibfmbbchhjeaa
open Go.RowKit

/-- append(s, u...) as a step of a region: u n ints at ad. -/
theorem step_spread {ops : Array Oper} {o : Oper} {a : Act} {K : Act → World → Prop} {Q : Exit → Act → World → Prop} {E : Prop} {wr : World} {s x : Operand} {B n cu : Nat} {v : Value} {xs ys : List Int} {ad : Addr}
    (hown : Own wr B v xs) (hn : ys.length = n) (hu : ∀ j, j < n → wr.cell? (ad.add j) = some (.int .i64 (ys.getD j 0))) (hlen : xs.length + n ≤ 1048576) (hB : B ≤ wr.heap.size)
    (hgd : Region.wanted o (yielded ops a.tmps) = true := by rfl)
    (ho : o.op = .call { callee := .builtin .append, args := #[s, x], argTypes := #[23, 23] } := by rfl)
    (hs : a.eval s = v := by rfl) (hx : a.eval x = .slice (some ad) n cu := by rfl)
    (h : ∀ v' w', Own w' B v' (xs ++ ys) → wr.grownBy w' v.ownBlock → Below B wr w' → K (a.put o.dst v') w') :
    if Region.wanted o (yielded ops a.tmps) = true then Oper.wp Try.prog o a wr K Q else E := by
  subst hn
  obtain ⟨i0, hi, hz0, hz1, hz2⟩ := info_parts infoInt
  have hnews : ∀ j z, (ys.map (Value.int .i64))[j]? = some z → wr.cell? (ad.add j) = some z := by
    intro j z hz
    have hj : j < ys.length := by
      have := (List.getElem?_eq_some_iff.1 hz).1
      simpa using this
    rw [hu j hj]
    simp [List.getD, hj] at hz ⊢
    exact hz
  rw [if_pos hgd]
  obtain ⟨v', w', hr, h2, h3, h4, h5⟩ := run_append_own_at (P := Try.prog) wr B 23 o.type 3 i0 (.int .i64 0) 1 8 Try.underlying23 hi hz0 hz1 hz2 rfl (by decide) v xs.length (xs.map (Value.int .i64)) hown ad ys.length cu (ys.map (Value.int .i64)) (by simp) hnews (by intro z hz; obtain ⟨q, _, rfl⟩ := List.mem_map.1 hz; rfl) (by unfold maxLen; omega) (by omega) hB
  unfold Oper.wp execOp
  simp only [ho, resolve, invoke, builtin, Sem.run_bind, Sem.run_pure, Result.andThen_ok, List.map_toArray, List.map_cons, List.map_nil, hs, hx, hr]
  refine h v' w' ?_ h3 (Own.pushed_below hown h3 hB)
  unfold Own
  rw [List.map_append, List.length_append]
  exact h2

theorem one_cell {W : World} {g : Nat} {y : Int} (h : W.cell? ⟨g, 0, none⟩ = some (.int .i64 y)) : ∀ j, j < 1 → W.cell? ((⟨g, 0, none⟩ : Addr).add j) = some (.int .i64 ([y].getD j 0)) := by
  intro j hj
  have e : j = 0 := by omega
  subst e
  rw [Go.WideShapes.add_plain]
  exact h

theorem own_empty_at {W : World} {B g : Nat} (hg : W.heap[g]? = some (.cells #[] 3 (0, 0))) (hB : B ≤ g) : Own W B (sl g 0 0) [] := by
  refine ⟨rfl, .inr ⟨g, 0, #[], rfl, hB, hg, Nat.le_refl _, by unfold maxLen; omega, rfl, rfl⟩⟩

theorem Own.capLe {w : World} {B n cap : Nat} {a : Option Addr} {xs : List Int} (h : Own w B (.slice a n cap) xs) : n ≤ cap := by
  rcases h.2 with ⟨h0, _⟩ | ⟨g, c, cur, hv, _, _, hl, _⟩
  · simp only [Value.slice.injEq] at h0
    omega
  · simp only [Value.slice.injEq] at hv
    omega

set_option maxRecDepth 100000 in
set_option maxHeartbeats 3200000 in
theorem FnShareBySums_walk (a : Option Addr) (n cap : Nat) (w : World) (h : IsBytes w a n) (hc : n ≤ cap) :
    Calls Try.prog 5 #[.slice a n cap] w fun e w' => e = .returned (.bool true) ∧ Below w.heap.size w w' := by
  by_cases hbig : (1048576 : Int) < (n : Int)
  · go_enter Try.func5, Try.ntmps5
    go_wp2
    go_ret
    exact ⟨rfl, Below.refl _ _⟩
  · go_enter Try.func5, Try.ntmps5
    go_wp2_with fail
    refine (DrawShareBySums_any a n cap w h hc).mono ?_
    rintro e w1 ⟨t, v, xs, rfl, ht, o1, wx, b1⟩
    have hl9 := wx.1
    have hl : xs.length ≤ 9223372036854775807 := by omega
    have hL := sumsL_length t xs
    go_wp2_with fail
    refine (ShareBySums_impl t v xs _ o1.ints hl).mono ?_
    rintro e w2 ⟨v2, rfl, o2, hb2⟩
    have b2 : Below w.heap.size w w2 := b1.trans (hb2.mono b1.size)
    have o1a := o1.below hb2
    clear o1 hb2
    go_wp2_with fail
    refine (ShareBySums_spec t v xs _ o1a.ints hl).mono ?_
    rintro e w3 ⟨v3, rfl, o3, hb3⟩
    have b3 : Below w.heap.size w w3 := b2.trans (hb3.mono b2.size)
    have o1b := o1a.below hb3
    have o2a := o2.below hb3
    clear o1a o2 hb3
    go_wp2_with fail
    refine (equalInts_any _ _ _ _ _ o2a.ints o3.ints (by omega)).mono ?_
    rintro e w4 ⟨rfl, hb4⟩
    have b4 : Below w.heap.size w w4 := b3.trans (hb4.mono b3.size)
    have o1c := o1b.below hb4
    have o2b := o2a.below hb4
    have hv1 := o1c.ints
    have hv2 := o2b.ints
    clear o1b o2a o3 hb4 b2 b3
    obtain ⟨av, cv, rfl, _⟩ := o2b.ints
    obtain ⟨aw, cw, rfl, _⟩ := o1c.ints
    have hcv := o2b.capLe
    have hcw := o1c.capLe
    clear o1c o2b
    cases hcs : cShare t xs
    · have hnil : sumsL t xs = [] := by rw [sumsL, hcs]; rfl
      have e0 : (((sumsL t xs).length : Int) == 0) = true := by rw [hnil]; rfl
      clear hnil
      go_wp2_with fail
      refine (ShareBySums_spec t _ xs _ hv1 hl).mono ?_
      rintro e w5 ⟨v5, rfl, o5, hb5⟩
      have b5 : Below w.heap.size w w5 := b4.trans (hb5.mono b4.size)
      have hv5 := hv2.below hb5
      go_wp2_with fail
      refine (equalInts_any _ _ _ _ _ hv5 o5.ints (by omega)).mono ?_
      rintro e w6 ⟨rfl, hb6⟩
      have b6 : Below w.heap.size w w6 := b5.trans (hb6.mono b5.size)
      go_wp2
      go_ret
      exact ⟨ret_bool (by simp), b6⟩
    · have hlen : (sumsL t xs).length = xs.length := by rw [sumsL, if_pos hcs]; simp
      have hxn := (vParts_facts (cShare_facts hcs).2.2).1
      have e0 : (((sumsL t xs).length : Int) == 0) = false := by rw [hlen, beq_eq_false_iff_ne]; omega
      have HL := Lib.hid hlen
      have HC := Lib.hid hcs
      have HV1 := Lib.hid hv1
      have HV2 := Lib.hid hv2
      obtain ⟨t0, t1, hvp⟩ := cShare_facts hcs
      obtain ⟨_, hall, s0, s1, _⟩ := vParts_facts hvp
      have HALL := Lib.hid hall
      clear hlen hcs hv1 hv2 hvp
      by_cases h2 : (1 : Int) < (xs.length : Int)
      · obtain ⟨m, hm⟩ : ∃ m, xs.length = m + 2 := ⟨xs.length - 2, by omega⟩
        obtain ⟨aw', cw', ew, hcw1⟩ := HV1.out
        simp only [Value.slice.injEq, true_and] at ew
        obtain ⟨rfl, rfl⟩ := ew
        obtain ⟨bw, fw, rfl, ci⟩ := hcw1 m (by omega)
        obtain ⟨bw', fw', e1, ck⟩ := hcw1 (m + 1) (by omega)
        simp only [Option.some.injEq, Addr.mk.injEq, and_true] at e1
        obtain ⟨rfl, rfl⟩ := e1
        have g1 := hall (xs.getD m 0) (by have : m < xs.length := by omega
                                          simp [List.getD, this])
        have g2 := hall (xs.getD (m + 1) 0) (by have : m + 1 < xs.length := by omega
                                                simp [List.getD, this])
        have HCW := Lib.hid hcw1
        have HM := Lib.hid hm
        have ci' : w4.cell? ⟨bw, fw + (xs.length - 2), none⟩ = some (.int .i64 (xs.getD m 0)) := by rw [hm]; exact ci
        have ck' : w4.cell? ⟨bw, fw + (xs.length - 1), none⟩ = some (.int .i64 (xs.getD (m + 1) 0)) := by rw [hm]; exact ck
        have GJ := Lib.hid (fun h50 : xs.getD m 0 + xs.getD (m + 1) 0 ≤ 50 => joined_sums HC.out hm h50)
        have HJ : Hid (joined xs m = xs.take m ++ [xs.getD m 0 + xs.getD (m + 1) 0]) := rfl
        generalize xs.getD m 0 = x1 at *
        generalize xs.getD (m + 1) 0 = x2 at *
        clear hcw1 hall hm ci ck
        have hd : decide ((1 : Int) < (xs.length : Int)) = true := decide_eq_true h2
        have i1 : (0 : Int) ≤ (xs.length : Int) - 2 := by omega
        have i2 : (xs.length : Int) - 2 < (xs.length : Int) := by omega
        have i3 : (0 : Int) ≤ (xs.length : Int) - 1 := by omega
        have i4 : (xs.length : Int) - 1 < (xs.length : Int) := by omega
        go_wp2
        go_quiet (fail)
        by_cases h50 : x1 + x2 ≤ 50
        · have hb5 : Below w.heap.size w (w4.drewN nq) := below_drewN b4 nq
          have ci5 : (w4.drewN nq).cell? ⟨bw, fw + (xs.length - 2), none⟩ = some (.int .i64 x1) := ci'
          have ck5 : (w4.drewN nq).cell? ⟨bw, fw + (xs.length - 1), none⟩ = some (.int .i64 x2) := ck'
          have HB5 := Lib.hid (below_drewN (Below.refl w4.heap.size w4) nq)
          go_wp2
          generalize w4.drewN nq = w5 at *
          have hbw5 : bw < w5.heap.size := World.block_lt_of_cell? w5 _ ci5
          have wr2 : IntKind.i64.wrap ((xs.length : Int) - 2) = (xs.length : Int) - 2 := IntWalk.i64_in _ (by omega)
          have wr1 : IntKind.i64.wrap ((xs.length : Int) - 1) = (xs.length : Int) - 1 := IntWalk.i64_in _ (by omega)
          have wrs : IntKind.i64.wrap (x1 + x2) = x1 + x2 := IntWalk.i64_in _ (by omega)
          have j1 : (2 : Int) ≤ (xs.length : Int) := by omega
          have j2 : (1 : Int) ≤ (xs.length : Int) := by omega
          have j3 : (xs.length : Int) ≤ (cw : Int) + 2 := by omega
          have j4 : (2 : Nat) ≤ xs.length := by omega
          have i5 : (xs.length : Int) - 2 ≤ (cw : Int) := by omega
          have tn2 : ((xs.length : Int) - 2).toNat = xs.length - 2 := by omega
          have tn1 : ((xs.length : Int) - 1).toNat = xs.length - 1 := by omega
          have hsrc : ∀ j, j < xs.length - 2 → w5.cell? ((⟨bw, fw, none⟩ : Addr).add j) = some (.int .i64 ((xs.take (xs.length - 2)).getD j 0)) := by
            intro j hj
            obtain ⟨b0, f0, e0, hc0⟩ := HCW.out j (by omega)
            simp only [Option.some.injEq, Addr.mk.injEq, and_true] at e0
            obtain ⟨rfl, rfl⟩ := e0
            rw [Go.WideShapes.add_plain]
            rw [List.getD_eq_getElem?_getD, List.getElem?_take, if_pos hj, ← List.getD_eq_getElem?_getD]
            exact (HB5.out.cell (World.block_lt_of_cell? w4 _ hc0)).trans hc0
          have HSRC : Hid (∀ W, Below w5.heap.size w5 W → ∀ j, j < xs.length - 2 → W.cell? ((⟨bw, fw, none⟩ : Addr).add j) = some (.int .i64 ((xs.take (xs.length - 2)).getD j 0))) := by
            intro W hW j hj
            refine (hW.cell ?_).trans (hsrc j hj)
            rw [Go.WideShapes.add_plain]
            exact hbw5
          clear hsrc
          have HAo := Lib.hid (own_empty_at (W := (w5.alloc (.cells #[] 3)).drew) (heap_alloc_new w5 _) (Nat.le_refl w5.heap.size))
          have HBo := Lib.hid (own_empty_at (W := ((w5.alloc (.cells #[] 3)).alloc (.cells #[.int .i64 (x1 + x2)] 3)).drew) ((Below.heap_alloc _ _ _ (by simp)).trans (heap_alloc_new w5 _)) (Nat.le_refl w5.heap.size))
          have HCo : Hid (Own ((w5.alloc (.cells #[.int .i64 (x1 + x2)] 3)).alloc (.cells #[] 3)).drew w5.heap.size (sl (w5.heap.size + 1) 0 0) []) :=
            own_empty_at (by have := heap_alloc_new (w5.alloc (.cells #[.int .i64 (x1 + x2)] 3)) (.cells #[] 3); rw [show (w5.alloc (.cells #[.int .i64 (x1 + x2)] 3)).heap.size = w5.heap.size + 1 by simp] at this; exact this) (Nat.le_succ _)
          have BA := Lib.hid (((Below.refl w5.heap.size w5).alloc (Nat.le_refl _) (.cells #[] 3)).drew)
          have BB := Lib.hid ((((Below.refl w5.heap.size w5).alloc (Nat.le_refl _) (.cells #[] 3)).alloc (by simp) (.cells #[.int .i64 (x1 + x2)] 3)).drew)
          have BC := Lib.hid ((((Below.refl w5.heap.size w5).alloc (Nat.le_refl _) (.cells #[.int .i64 (x1 + x2)] 3)).alloc (by simp) (.cells #[] 3)).drew)
          have CB : Hid (((w5.alloc (.cells #[] 3)).alloc (.cells #[.int .i64 (x1 + x2)] 3)).drew.cell? ⟨w5.heap.size + 1, 0, none⟩ = some (.int .i64 (x1 + x2))) := World.cell?_alloc_at _ _ _ _ (by simp)
          have CC : Hid (((w5.alloc (.cells #[.int .i64 (x1 + x2)] 3)).alloc (.cells #[] 3)).drew.cell? ⟨w5.heap.size, 0, none⟩ = some (.int .i64 (x1 + x2))) := (World.cell?_alloc_past _ _ _ (by simp)).trans (World.cell?_alloc_at _ _ _ _ rfl)
          go_region_held3 (fun w' => w'.cell? ⟨bw, fw + (xs.length - 2), none⟩ = some (.int .i64 x1) ∧ w'.cell? ⟨bw, fw + (xs.length - 1), none⟩ = some (.int .i64 x2))
            (first
              | go_keep
              | (go_split_ands
                 exact ⟨(hbl2.cell (by exact hbw5)).trans (by assumption), (hbl2.cell (by exact hbw5)).trans (by assumption)⟩)
              | (go_split_ands
                 exact ⟨(hbl1.cell (by exact hbw5)).trans (by assumption), (hbl1.cell (by exact hbw5)).trans (by assumption)⟩))
            (first
              | (refine step_spread (s := .tmp 54) (xs := []) (ys := xs.take (xs.length - 2)) (ad := ⟨bw, fw, none⟩) (B := w5.heap.size) (by first | exact HAo.out | exact HBo.out | exact HCo.out) (by simp <;> omega) (HSRC.out _ (by first | exact BA.out | exact BB.out | exact BC.out)) (by simp <;> omega) (by simp <;> omega) (h := ?_); intro v1 w6 own1 hgrow1 hbl1)
              | (refine step_spread (s := .tmp 59) (xs := [] ++ xs.take (xs.length - 2)) (ys := [x1 + x2]) (B := w5.heap.size) (by first | exact own1 | exact own1.below ((Below.refl _ _).alloc (Nat.le_refl _) _)) rfl (by first | exact one_cell (World.cell?_alloc_at _ _ _ _ rfl) | exact one_cell (hgrow1.cell CB.out (by simp [Value.ownBlock])) | exact one_cell (hgrow1.cell CC.out (by simp [Value.ownBlock]))) (by simp <;> omega) (by have := hbl1.size; simp at this ⊢; omega) (h := ?_); intro v2 w7 own2 hgrow2 hbl2))
          all_goals
            have bl7 : Below w5.heap.size w5 w7 := by
              first
                | exact (BA.out.trans hbl1).trans (((Below.refl _ _).alloc (by have := hbl1.size; simp at this ⊢; omega) _).trans hbl2)
                | exact (BB.out.trans hbl1).trans hbl2
                | exact (BC.out.trans hbl1).trans hbl2
            have own3 : Own w7 w5.heap.size v2 (joined xs m) := by
              have e : [] ++ xs.take (xs.length - 2) ++ [x1 + x2] = joined xs m := by rw [HJ.out, HM.out]; rfl
              rw [← e]; exact own2
            clear own2 hgrow2 hbl2 hgrow1 hbl1 own1 HAo HBo HCo BA BB BC CB CC
            have b7 : Below w.heap.size w w7 := hb5.trans (bl7.mono hb5.size)
            have B47 : Below w4.heap.size w4 w7 := HB5.out.trans (bl7.mono HB5.out.size)
            have hlj : (joined xs m).length ≤ 9223372036854775807 := by unfold joined; simp; omega
            obtain ⟨js1, js2, js3⟩ := GJ.out h50
            have JS2 := Lib.hid js2
            have JS3 := Lib.hid js3
            clear js2 js3
            go_wp2_with fail
            refine (ShareBySums_impl t v2 (joined xs m) _ own3.ints hlj).mono ?_
            rintro e w8 ⟨v8, rfl, o8, hb8⟩
            have b8 : Below w.heap.size w w8 := b7.trans (hb8.mono b7.size)
            have B48 : Below w4.heap.size w4 w8 := B47.trans (hb8.mono B47.size)
            clear own3 hb8 B47 b7 bl7 HSRC
            obtain ⟨g8, c8, hv8⟩ := o8.shape (by omega)
            subst hv8
            have hc8 := o8.capLe
            have hz0 := o8.cell rfl m (by omega)
            have hsm := sums_small t xs
            have hv2x := HV2.out.below B48
            obtain ⟨av', cv', ev, hcvx⟩ := HV2.out.below B48
            simp only [Value.slice.injEq, true_and] at ev
            obtain ⟨rfl, rfl⟩ := ev
            have hmm := HM.out
            have hll := HL.out
            obtain ⟨bo, fo, rfl, d1⟩ := hcvx m (by omega)
            obtain ⟨bo', fo', e2, d2⟩ := hcvx (m + 1) (by omega)
            simp only [Option.some.injEq, Addr.mk.injEq, and_true] at e2
            obtain ⟨rfl, rfl⟩ := e2
            have eA : IsInts w8 (.slice (some ⟨g8, 0, none⟩) (xs.length - 2) c8) ((sumsL t (joined xs m)).take (xs.length - 2)) := by
              have hlt : ((sumsL t (joined xs m)).take (xs.length - 2)).length = xs.length - 2 := by simp; omega
              refine ⟨_, c8, by rw [hlt], fun j hj => ⟨g8, 0, rfl, ?_⟩⟩
              rw [hlt] at hj
              rw [Nat.zero_add, o8.cell rfl j (by omega), List.getD_eq_getElem?_getD, List.getD_eq_getElem?_getD, List.getElem?_take, if_pos hj]
            have eB : IsInts w8 (.slice (some ⟨bo, fo, none⟩) (xs.length - 2) cv) ((sumsL t xs).take (xs.length - 2)) := by
              have hlt : ((sumsL t xs).take (xs.length - 2)).length = xs.length - 2 := by simp; omega
              refine ⟨_, cv, by rw [hlt], fun j hj => ?_⟩
              rw [hlt] at hj
              obtain ⟨b9, f9, e9, h9⟩ := hcvx j (by omega)
              refine ⟨b9, f9, e9, ?_⟩
              rw [h9, List.getD_eq_getElem?_getD, List.getD_eq_getElem?_getD, List.getElem?_take, if_pos hj]
            have hsame : (sumsL t (joined xs m)).take (xs.length - 2) = (sumsL t xs).take (xs.length - 2) := by
              have : xs.length - 2 = m := by omega
              rw [this]; exact JS2.out
            have CE : Hid (∀ q, Calls Try.prog 22 #[.slice (some ⟨g8, 0, none⟩) (xs.length - 2) c8, .slice (some ⟨bo, fo, none⟩) (xs.length - 2) cv] (w8.drewN q) fun e w' => e = .returned (.bool true) ∧ ∃ k, w' = (w8.drewN q).drewN k) := by
              intro q
              have hq := equalInts_quiet _ _ _ _ (w8.drewN q) (eA.below (below_drewN (Below.refl _ _) q)) (eB.below (below_drewN (Below.refl _ _) q)) (by simp; omega)
              rw [decide_eq_true hsame] at hq
              exact hq
            have hz1 : w8.cell? ⟨g8, xs.length - 2, none⟩ = some (.int .i64 ((sumsL t (joined xs m)).getD m 0)) := by
              have : xs.length - 2 = m := by omega
              rw [this]; exact hz0
            have hd1 : w8.cell? ⟨bo, fo + (xs.length - 2), none⟩ = some (.int .i64 ((sumsL t xs).getD m 0)) := by
              have : xs.length - 2 = m := by omega
              rw [this]; exact d1
            have hd2 : w8.cell? ⟨bo, fo + (xs.length - 1), none⟩ = some (.int .i64 ((sumsL t xs).getD (m + 1) 0)) := by
              have : xs.length - 1 = m + 1 := by omega
              rw [this]; exact d2
            have y1 := hsm.2 ((sumsL t xs).getD m 0) (by have : m < (sumsL t xs).length := by omega
                                                         simp [List.getD, this])
            have y2 := hsm.2 ((sumsL t xs).getD (m + 1) 0) (by have : m + 1 < (sumsL t xs).length := by omega
                                                               simp [List.getD, this])
            have hzz := JS3.out
            generalize (sumsL t (joined xs m)).getD m 0 = z0 at hz1 hzz
            generalize (sumsL t xs).getD m 0 = z1 at hd1 hzz y1
            generalize (sumsL t xs).getD (m + 1) 0 = z2 at hd2 hzz y2
            have hbz : (z0 != z1 + z2) = false := by simp; omega
            have hbn : (((sumsL t (joined xs m)).length : Int) != (xs.length : Int) - 1) = false := by rw [js1]; simp; omega
            have k1 : (xs.length : Int) - 2 < ((sumsL t (joined xs m)).length : Int) := by rw [js1]; omega
            have k2 : (xs.length : Int) - 2 < ((sumsL t xs).length : Int) := by rw [hll]; omega
            have k3 : (xs.length : Int) - 1 < ((sumsL t xs).length : Int) := by rw [hll]; omega
            have k4 : (xs.length : Int) - 2 ≤ (c8 : Int) := by rw [js1] at hc8; omega
            have k5 : (xs.length : Int) - 2 ≤ (cv : Int) := by omega
            have wz : IntKind.i64.wrap (z1 + z2) = z1 + z2 := IntWalk.i64_in _ (by omega)
            clear hsame eA eB hcvx hz0 d1 d2 hmm hll hzz js1 hsm o8 hv2x
            go_wp2
            go_quiet ((go_at_call 22; exact Calls.quiet_of (CE.out _)))
            clear wz wr1 wr2 wrs tn1 tn2
            have hfy := fits_of_ok t0 t1 HALL.out s0 s1 HL.out (fun k hk => sums_ok HC.out k hk)
            have hft : Fits (sumsL t xs) := fun y hy => by have := hfy y hy; omega
            have hsy := sumFits_of (sumsL t xs) 5000400 hfy (by omega) (by omega)
            have HF := Lib.hid (sums_fair HC.out)
            have HT := Lib.hid (sums_tot HC.out)
            have hlr : (sumsL t xs).length ≤ 9223372036854775807 := by omega
            have hvA := HV1.out.below (B48.trans (below_drewN (Below.refl _ _) nq))
            have hvB := HV2.out.below (B48.trans (below_drewN (Below.refl _ _) nq))
            have bT := below_drewN b8 nq
            clear hfy
            go_wp2_with fail
            refine (IsFair_impl t _ _ xs (sumsL t xs) _ hvA hl hvB hlr hft).mono ?_
            rw [HF.out]
            rintro e w20 ⟨rfl, hb20⟩
            have b20 : Below w.heap.size w w20 := bT.trans (hb20.mono bT.size)
            have hv20 := hvB.below hb20
            clear hb20 hvA hvB
            go_wp2_with fail
            refine (total_any _ _ _ hv20 hlr hsy).mono ?_
            rw [HT.out]
            rintro e w' ⟨rfl, rfl⟩
            go_wp2
            go_ret
            exact ⟨ret_bool (by simp), b20⟩
        · have hdf : decide (x1 + x2 ≤ 50) = false := decide_eq_false h50
          clear hd
          have hfy := fits_of_ok t0 t1 HALL.out s0 s1 HL.out (fun k hk => sums_ok HC.out k hk)
          have hft : Fits (sumsL t xs) := fun y hy => by have := hfy y hy; omega
          have hsy := sumFits_of (sumsL t xs) 5000400 hfy (by omega) (by omega)
          have HF := Lib.hid (sums_fair HC.out)
          have HT := Lib.hid (sums_tot HC.out)
          have hlr : (sumsL t xs).length ≤ 9223372036854775807 := by omega
          have hvA := HV1.out.below (below_drewN (Below.refl _ _) nq)
          have hvB := HV2.out.below (below_drewN (Below.refl _ _) nq)
          have bT := below_drewN b4 nq
          clear hfy
          go_wp2_with fail
          refine (IsFair_impl t _ _ xs (sumsL t xs) _ hvA hl hvB hlr hft).mono ?_
          rw [HF.out]
          rintro e w20 ⟨rfl, hb20⟩
          have b20 : Below w.heap.size w w20 := bT.trans (hb20.mono bT.size)
          have hv20 := hvB.below hb20
          clear hb20 hvA hvB
          go_wp2_with fail
          refine (total_any _ _ _ hv20 hlr hsy).mono ?_
          rw [HT.out]
          rintro e w' ⟨rfl, rfl⟩
          go_wp2
          go_ret
          exact ⟨ret_bool (by simp), b20⟩
      · have hd : decide ((1 : Int) < (xs.length : Int)) = false := decide_eq_false h2
        go_wp2
        go_quiet (fail)
        clear hd
        have hfy := fits_of_ok t0 t1 HALL.out s0 s1 HL.out (fun k hk => sums_ok HC.out k hk)
        have hft : Fits (sumsL t xs) := fun y hy => by have := hfy y hy; omega
        have hsy := sumFits_of (sumsL t xs) 5000400 hfy (by omega) (by omega)
        have HF := Lib.hid (sums_fair HC.out)
        have HT := Lib.hid (sums_tot HC.out)
        have hlr : (sumsL t xs).length ≤ 9223372036854775807 := by omega
        have hvA := HV1.out.below (below_drewN (Below.refl _ _) nq)
        have hvB := HV2.out.below (below_drewN (Below.refl _ _) nq)
        have bT := below_drewN b4 nq
        clear hfy
        go_wp2_with fail
        refine (IsFair_impl t _ _ xs (sumsL t xs) _ hvA hl hvB hlr hft).mono ?_
        rw [HF.out]
        rintro e w20 ⟨rfl, hb20⟩
        have b20 : Below w.heap.size w w20 := bT.trans (hb20.mono bT.size)
        have hv20 := hvB.below hb20
        clear hb20 hvA hvB
        go_wp2_with fail
        refine (total_any _ _ _ hv20 hlr hsy).mono ?_
        rw [HT.out]
        rintro e w' ⟨rfl, rfl⟩
        go_wp2
        go_ret
        exact ⟨ret_bool (by simp), b20⟩

end Go.Proofs.Ytlibfmbbchhjeaa
