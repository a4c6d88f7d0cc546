/- GreedyCoins, the program's contract. -/
import Derived.Test.YtbkndncdhombeaaGreI
namespace Go.Proofs.Ytbkndncdhombeaa
open Go.RowKit Go.Shelf
attribute [local go_sem] Oper.semAt_some

set_option maxRecDepth 100000 in
set_option maxHeartbeats 4000000 in
theorem GreedyCoins_impl (v : Value) (cs : List Int) (a : Int) (w : World) (hv : IsInts w v cs) (hl : cs.length ≤ 9223372036854775807) :
    Calls Try.prog 29 #[v, .int .i64 a] w fun e w' => ∃ v', e = .returned v' ∧ Own w' w.heap.size v' (greL cs a) ∧ Below w.heap.size w w' := by
  have HCP := Lib.hid (fun r => canPayBy_at v cs a r w hv hl)
  have HNO : Hid (cGre cs a = false → greL cs a = []) := greL_no
  cases h0 : (vCoins cs && inR a 0 120)
  · have E := Lib.hid (HNO.out (by
      unfold cGre
      cases h1 : vCoins cs
      · rfl
      · rw [h1, Bool.true_and] at h0
        rw [h0]; simp))
    go_enter Try.func29, Try.ntmps29
    go_wp2_with (go_at_call 47; refine (HCP.out _ h0).mono ?_; rintro e w' ⟨rfl, hd⟩)
    go_ret
    exact ⟨_, rfl, by rw [E.out]; exact own_nil _ _, hd.below⟩
  have H0 := Lib.hid h0
  rw [Bool.and_eq_true] at h0
  have h1 := h0.1
  have b2 := inR_true h0.2
  obtain ⟨l1, l5⟩ := vc_len h1
  obtain ⟨b, off, cap, rfl, hbw, hc⟩ := id (hv.at0 l1)
  have c0 := hc 0 (by omega)
  have l0 : (0 : Int) < (cs.length : Int) := by omega
  rw [Nat.add_zero] at c0
  have HC1 : Hid (∀ w1, Drawn w w1 → w1.cell? ⟨b, off, none⟩ = some (.int .i64 (cs.getD 0 0))) := fun w1 hd => (hd.cell _).trans c0
  have HGE : Hid (cGre cs a = decide (cs.getD 0 0 = 1)) := by show _ = _; unfold cGre; rw [h0.1, h0.2, Bool.true_and, Bool.and_true]
  by_cases hx : cs.getD 0 0 = 1
  · have E : Hid (greL cs a = grL cs a) := by show _ = _; unfold greL; rw [HGE.out, decide_eq_true hx, if_pos rfl]
    rw [hx] at HC1
    have hxb : ((1 : Int) != 1) = false := by decide
    have HV := Lib.hid hv
    have HBK := Lib.hid Backward_any
    have HGB := Lib.hid (gst_bounds (vc_pos h1) b2.1)
    have HGL := Lib.hid (gst_len cs a)
    have HGS := Lib.hid (gst_snoc cs a)
    have HGN := Lib.hid (gst_nil cs a)
    have HNT := Lib.hid (nth_at h1)
    have HEND : Hid (∀ ys : List (Fin cs.length), (ys.map (nth cs)).reverse = cs → (gst cs a ys).1 = greL cs a) := fun ys hy => by rw [E.out]; exact gst_end h1 a hy
    obtain ⟨i0, hi, hz0, hz1, hz2⟩ := info_parts infoInt
    clear hc hv h0 h1 c0 hx HGE
    refine (callsIn_wide (n := 3)).1 ?_
    refine callsIn_of_wp_marks Try.func29 rfl trivial ?_ rfl
    simp only [Try.ntmps29, List.size_toArray, List.length_cons, List.length_nil, Nat.reduceAdd, Nat.reduceSub, Array.replicate_succ, Array.replicate_zero, List.push_toArray, List.append_toArray, List.nil_append, List.cons_append]
    gi_wp2_with fail
    refine ⟨trivial, (callsIn_wide.2 (HCP.out _ H0.out)).mono ?_⟩
    rintro e w1 ⟨rfl, hd⟩
    have d0 := HC1.out _ hd
    gi_wp2_with (gi_at_make; refine wpListIn_make_full _ rfl _ _ 23 rfl w1.heap.size 3 i0 (.int .i64 0) 1 Try.underlying23 hi hz0 hz1 _ _ _ _ cs.length rfl rfl rfl rfl ?b2 ?b3 (Nat.le_refl _) ?_)
    case b2 => rw [hz2]; omega
    case b3 => unfold maxLen; omega
    intro w2 hown0 hgrow0
    have hb1 : Below w.heap.size w w1 := hd.below
    have hs1 := hb1.size
    have hb2 : Below w.heap.size w w2 := hb1.trans (below_grown hgrow0 hs1 (fun k h => by cases h))
    have ho2 : Own w2 w.heap.size (sl w1.heap.size cs.length cs.length) (List.replicate cs.length 0) := (own_made hown0).base hs1
    generalize w1.heap.size = g0 at *
    have hgl := ho2.baseLe
    clear hown0 hgrow0 d0 HCP HC1 hb1
    gi_wp2_with fail
    refine ⟨trivial, (callsIn_wide.2 (HBK.out _ _ _ _)).mono ?_⟩
    rintro e w' ⟨rfl, rfl⟩
    gi_wp2_with fail
    have p0 := ((Bx.new w2 (sl g0 cs.length cs.length) 23).alloc (.cells #[.int .i64 a] 3)).alloc (.cells #[.slice (some ⟨b, off, none⟩) cs.length cap] 23)
    have p1 := (Bx.new (w2.alloc (.cells #[sl g0 cs.length cs.length] 23)) (.int .i64 a) 3).alloc (.cells #[.slice (some ⟨b, off, none⟩) cs.length cap] 23)
    have p2 := Bx.new ((w2.alloc (.cells #[sl g0 cs.length cs.length] 23)).alloc (.cells #[.int .i64 a] 3)) (.slice (some ⟨b, off, none⟩) cs.length cap) 23
    simp only [World.size_alloc] at p1 p2
    have hB3 := ((hb2.alloc (by have := hb2.size; omega) (.cells #[sl g0 cs.length cs.length] 23)).alloc (by have := hb2.size; simp; omega) (.cells #[.int .i64 a] 3)).alloc (by have := hb2.size; simp; omega) (.cells #[.slice (some ⟨b, off, none⟩) cs.length cap] 23)
    have hO3 := ho2.below ((((Below.refl w2.heap.size w2).alloc (Nat.le_refl _) (.cells #[sl g0 cs.length cs.length] 23)).alloc (by simp) (.cells #[.int .i64 a] 3)).alloc (by simp; omega) (.cells #[.slice (some ⟨b, off, none⟩) cs.length cap] 23))
    have hz3 : (((w2.alloc (.cells #[sl g0 cs.length cs.length] 23)).alloc (.cells #[.int .i64 a] 3)).alloc (.cells #[.slice (some ⟨b, off, none⟩) cs.length cap] 23)).heap.size = w2.heap.size + 1 + 1 + 1 := by simp
    generalize ((w2.alloc (.cells #[sl g0 cs.length cs.length] 23)).alloc (.cells #[.int .i64 a] 3)).alloc (.cells #[.slice (some ⟨b, off, none⟩) cs.length cap] 23) = W3 at *
    have hs2 := hb2.size
    generalize w2.heap.size = k0 at *
    have F0 := Lib.hid p0
    have F1 := Lib.hid p1
    have HRd := Lib.hid (Rd.of (n0 := w.heap.size) p2.1 HV.out rfl hB3)
    have F5 := Lib.hid hB3
    have FO := Lib.hid hO3
    have F6 := Lib.hid hz3
    have HGI : Hid (Go.Proofs.Ytbkndncdhombeaa.Own W3 w.heap.size (sl g0 cs.length cs.length) (gst cs a []).1 ∧ (gst cs a []).2 = a) := by rw [HGN.out]; exact ⟨hO3, rfl⟩
    clear p0 p1 p2 hB3 hO3 hz3 ho2 hb2
    refine wpIn_rangeFunc_ownF rfl (by omega) (gf := 69) (lb := #[.pointer (some ⟨k0 + 1 + 1, 0, none⟩)]) rfl trivial (enters_of Try.func69 (by kernel_rfl) rfl)
      (backward_stops Fence.wide _ trivial rfl (by omega) w.heap.size (k0 + 1 + 1) _ cs W3 HRd.out (by omega)) (fun h k r => k (h r)) (fun W l o o' _ h hc _ r => r.own (grownBy_putObj' W l o') (fun r e => by cases e; exact ⟨_, h, hc⟩)) (Below.refl _ _) (fun _ => rfl)
      (fun (pre : List (Fin cs.length)) W => (Bx W k0 (sl g0 cs.length cs.length) ∧ Bx W (k0 + 1) (.int .i64 (gst cs a pre).2) ∧ Go.Proofs.Ytbkndncdhombeaa.Own W w.heap.size (sl g0 cs.length cs.length) (gst cs a pre).1) ∧ Below w.heap.size w W)
      (fun _ (_ : List (Fin cs.length)) _ => False)
      (OwnFrom.and (Go.Own.from (fun s A B row hs hg hr => ⟨hs.1.own hg hr, hs.2.1.own hg hr, Go.Proofs.Ytbkndncdhombeaa.Own.own hs.2.2 l1 (HGL.out _) hg hr⟩) _) (ownFrom_below (Nat.le_refl _) F5.out.size))
      (fun c => Go.Own.from (fun s A B row hs hg hr => hs) _)
      ⟨⟨F0.out, by rw [HGI.out.2]; exact F1.out, HGI.out.1⟩, F5.out⟩
      (fun x => { tmps := #[.slice (some ⟨b, off, none⟩) cs.length cap, .int .i64 a, undef, undef, .slice none 0 0, .pointer (some ⟨k0, 0, none⟩), .pointer (some ⟨k0 + 1, 0, none⟩), .int .i64 (x.val : Nat), .int .i64 (nth cs x), .slice (some ⟨b, off, none⟩) cs.length cap, .int .i64 a, .bool true, .bool false, .bool false, .slice (some ⟨b, off, none⟩) cs.length cap, .pointer (some ⟨b, off, none⟩), .int .i64 1, .bool false, .bool false, .slice (some ⟨b, off, none⟩) cs.length cap, .int .i64 cs.length, .slice (some ⟨g0, 0, none⟩) cs.length cs.length, .int .i64 a, .slice (some ⟨b, off, none⟩) cs.length cap, .func (.func 69) #[] #[.pointer (some ⟨k0 + 1 + 1, 0, none⟩)], .int .i64 (x.val : Nat), .int .i64 (nth cs x), undef, undef, undef, undef, undef, undef, undef, undef, undef, undef], defers := [] }) ?assign ?body ?done ?stop
    case assign =>
      intro l x W K hK
      gi_wp2
      exact hK
    case body =>
      rintro l pre x W ⟨⟨b0, b1, bo⟩, hB⟩ hlen
      have hnt := HNT.out x
      have hgb := HGB.out pre
      have hL := HGL.out pre
      have hi1 := x.isLt
      have HS := Lib.hid (HGS.out pre x)
      obtain ⟨c, hcn⟩ : ∃ c : Nat, nth cs x = c := ⟨(nth cs x).toNat, by omega⟩
      obtain ⟨y, hyn⟩ : ∃ y : Nat, (gst cs a pre).2 = y := ⟨(gst cs a pre).2.toNat, by omega⟩
      have HS1 : Hid ((gst cs a (pre ++ [x])).1 = (gst cs a pre).1.set x.val ((y : Int) / c) ∧ (gst cs a (pre ++ [x])).2 = (y : Int) % c) := by rw [HS.out, hyn, hcn]; exact ⟨rfl, rfl⟩
      rw [hyn] at b1 hgb
      rw [hcn] at hnt ⊢
      clear hyn hcn HS
      generalize (gst cs a pre).1 = L at *
      obtain ⟨i, hxi⟩ : ∃ i : Nat, x.val = i := ⟨_, rfl⟩
      rw [hxi] at HS1 hi1 ⊢
      have HXI := Lib.hid hxi
      clear hxi
      have i1 : (i : Int) < (cs.length : Int) := by omega
      have y120 : (y : Int) ≤ 120 := by omega
      have hcz : (c : Int) ≠ 0 := by omega
      have hq0 := Int.ediv_nonneg (show 0 ≤ (y : Int) by omega) (show 0 ≤ (c : Int) by omega)
      have hq1 := Int.ediv_le_self (c : Int) (show 0 ≤ (y : Int) by omega)
      have hm0 := Int.emod_nonneg (y : Int) hcz
      have hm1 := Int.emod_lt_of_pos (y : Int) (show 0 < (c : Int) by omega)
      have e0 := b0.1
      have e1 := b1.1
      have f1 := b1.2
      have e2 := bo.cell hL i hi1
      have f2 := bo.frozen hL i
      have G0 := Lib.hid b0
      have G1 := Lib.hid b1
      have GO := Lib.hid bo
      have GB := Lib.hid hB
      clear b0 b1 bo hB
      have x0 := Bx.otherAt (W := W.drew) G0.out ⟨g0, i, none⟩ (by simp; omega) (.int .i64 ((y : Int) / c))
      have x1 := Bx.otherAt (W := W.drew) G1.out ⟨g0, i, none⟩ (by simp; omega) (.int .i64 ((y : Int) / c))
      have x2 := GO.out.below ((Below.refl W.heap.size W).drew)
      have x3 := x2.set hL i ((y : Int) / c)
      have z1 := x1.1
      have z2 := x1.2
      have X0 := Lib.hid x0
      have X1 := Lib.hid x1
      have X3 := Lib.hid x3
      clear x0 x1 x2 x3
      have hKO : KeepsOthers W W.drew := KeepsOthers.of_grownBy (row := none) ⟨rfl, rfl, rfl, Nat.le_refl _, fun _ _ _ => rfl⟩ (fun j o e => by cases e)
      have HFIN : Hid (KeepsOthers W ((W.drew.setCell ⟨g0, i, none⟩ (.int .i64 ((y : Int) / c))).setCell ⟨k0 + 1, 0, none⟩ (.int .i64 ((y : Int) % c))) ∧
          (Rd w.heap.size (k0 + 1 + 1) (.slice (some ⟨b, off, none⟩) cs.length cap) cs W → Rd w.heap.size (k0 + 1 + 1) (.slice (some ⟨b, off, none⟩) cs.length cap) cs ((W.drew.setCell ⟨g0, i, none⟩ (.int .i64 ((y : Int) / c))).setCell ⟨k0 + 1, 0, none⟩ (.int .i64 ((y : Int) % c)))) ∧
          (Bx ((W.drew.setCell ⟨g0, i, none⟩ (.int .i64 ((y : Int) / c))).setCell ⟨k0 + 1, 0, none⟩ (.int .i64 ((y : Int) % c))) k0 (sl g0 cs.length cs.length) ∧ Bx ((W.drew.setCell ⟨g0, i, none⟩ (.int .i64 ((y : Int) / c))).setCell ⟨k0 + 1, 0, none⟩ (.int .i64 ((y : Int) % c))) (k0 + 1) (.int .i64 (gst cs a (pre ++ [x])).2) ∧
            Go.Proofs.Ytbkndncdhombeaa.Own ((W.drew.setCell ⟨g0, i, none⟩ (.int .i64 ((y : Int) / c))).setCell ⟨k0 + 1, 0, none⟩ (.int .i64 ((y : Int) % c))) w.heap.size (sl g0 cs.length cs.length) (gst cs a (pre ++ [x])).1) ∧
          Below w.heap.size w ((W.drew.setCell ⟨g0, i, none⟩ (.int .i64 ((y : Int) / c))).setCell ⟨k0 + 1, 0, none⟩ (.int .i64 ((y : Int) % c)))) := by
        refine ⟨(hKO.trans (KeepsOthers.setCell _ _ _)).trans (KeepsOthers.setCell _ _ _), fun r => ?_, ⟨?_, ?_, ?_⟩, ?_⟩
        · exact (Rd.setAt (W := W.drew) r ⟨g0, i, none⟩ (by simp; omega) (by simp; omega) _).setAt ⟨k0 + 1, 0, none⟩ (by simp; omega) (by simp) _
        · exact X0.out.otherAt ⟨k0 + 1, 0, none⟩ (by simp) _
        · rw [HS1.out.2]
          exact X1.out.set _
        · rw [HS1.out.1]
          refine X3.out.1.kept (Go.grownBy_setCell' (W.drew.setCell ⟨g0, i, none⟩ (.int .i64 ((y : Int) / c))) (k0 + 1) (.int .i64 ((y : Int) % c))) (.inr ?_)
          simp [Value.ownBlock]; omega
        · exact ((GB.out.drew).setCell (p := ⟨g0, i, none⟩) (by simp; omega) _).setCell (p := ⟨k0 + 1, 0, none⟩) (by simp; omega) _
      have HLEN := Lib.hid (show True from trivial)
      clear X0 X1 X3 G0 G1 GO GB HS1 hKO HXI HLEN
      gi_wp2
      gi_region
      all_goals gi_wp2
      all_goals exact HFIN.out
    case done =>
      rintro D ys W hD hys ⟨⟨b0, b1, bo⟩, hB⟩ hK
      rw [HEND.out ys hys] at bo
      have c2 := b0.1
      have HK := Lib.hid hK
      have HD := Lib.hid hD
      have hlg : (greL cs a).length = cs.length := by rw [← HEND.out ys hys]; exact HGL.out ys
      clear b0 b1 hys hK hD
      gi_wp2
      have hK' : W.heap[D]? = some (.deferred (some [])) := HK.out
      refine ⟨by simp, .inl ⟨_, _, rfl, run_takeDeferred hK', ?_⟩⟩
      refine ⟨sl g0 cs.length cs.length, by simp [results, Try.f29, go_sem], ⟨_, rfl, ?_, ?_⟩⟩
      · exact Go.Proofs.Ytbkndncdhombeaa.Own.own bo l1 hlg (grownBy_putObj' W D _) (fun r e => by cases e; exact ⟨_, hK', rfl⟩)
      · exact hB.trans (belowK_b (w := w) (Nat.le_refl _) _ D _ _ (Nat.le_trans F5.out.size HD.out) hK' rfl rfl)
    case stop =>
      rintro D c pre W hD _ h
      exact h.elim
  · have hxb : (cs.getD 0 0 != 1) = true := by simp only [bne_iff_ne, ne_eq]; exact hx
    have E := Lib.hid (HNO.out (by rw [HGE.out]; exact decide_eq_false hx))
    clear hx HGE c0 hc hv h0 h1
    generalize cs.getD 0 0 = x at *
    go_enter Try.func29, Try.ntmps29
    go_wp2_with (go_at_call 47; refine (HCP.out _ H0.out).mono ?_; rintro e w' ⟨rfl, hd⟩; have d0 := HC1.out _ hd)
    go_ret
    exact ⟨_, rfl, by rw [E.out]; exact own_nil _ _, hd.below⟩

end Go.Proofs.Ytbkndncdhombeaa
