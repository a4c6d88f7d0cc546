/- FewestCoins, the program's contract. -/
import Derived.Test.YtbkndncdhombeaaFstM
import Derived.Test.YtbkndncdhombeaaGreI
import Derived.Test.YtbkndncdhombeaaFewI
namespace Go.Proofs.Ytbkndncdhombeaa
open Go.RowKit Go.Shelf
attribute [local go_sem] Oper.semAt_some

theorem wpOpIn_unw {F : Fence} {n : Nat} {P : Program} {ops : Array Oper} {Q : Exit → Act → World → Prop} {i : Nat} {K : Act → World → Prop} {a : Act} {w : World} {o : Oper} (hF : ∀ f, F.fn f) (ho : ops[i]? = some o) (hw : Region.wanted o (yielded ops a.tmps) = false) (h : K (a.put o.dst undef) w) : wpOpIn F n P ops Q i K a w := by
  unfold wpOpIn
  simp only [ho, hw, Bool.false_eq_true, if_false]
  exact ⟨fun f _ => hF f, h⟩

theorem few_no {cs : List Int} {a : Int} (h : cFew cs a = false) : fewN cs a = 0 ∧ fewL cs a = [] := by unfold fewN fewL; rw [h]; exact ⟨rfl, rfl⟩

set_option maxRecDepth 100000 in
set_option maxHeartbeats 8000000 in
theorem FewestCoins_impl (v : Value) (cs : List Int) (a : Int) (w : World) (hv : IsInts w v cs) (hl : cs.length ≤ 9223372036854775807) :
    Calls Try.prog 21 #[v, .int .i64 a] w fun e w' => ∃ v', e = .returned (.tuple #[.int .i64 (fewN cs a), v', .bool (cFew cs a)]) ∧ Own w' w.heap.size v' (fewL cs a) ∧ Below w.heap.size w w' := by
  have HCP := Lib.hid (fun r => canPayBy_at v cs a r w hv hl)
  have HNO : Hid (cFew cs a = false → fewN cs a = 0 ∧ fewL cs a = []) := few_no
  cases h0 : (vCoins cs && inR a 0 120)
  · have E : Hid (cFew cs a = false) := by show _ = _; unfold cFew; rw [h0]; rfl
    go_enter Try.func21, Try.ntmps21
    go_wp2_with (go_at_call 47; refine (HCP.out _ h0).mono ?_; rintro e w' ⟨rfl, hd⟩)
    go_ret3
    exact ⟨_, ret_few (HNO.out E.out).1.symm E.out.symm, by rw [(HNO.out E.out).2]; exact own_nil _ _, hd.below⟩
  have H0 := Lib.hid h0
  rw [Bool.and_eq_true] at h0
  have h1 := h0.1
  have b2 := inR_true h0.2
  obtain ⟨n, rfl⟩ : ∃ n : Nat, a = n := ⟨a.toNat, by omega⟩
  have n120 : n ≤ 120 := by omega
  obtain ⟨l1, l5⟩ := vc_len h1
  have hp := vc_pos h1
  obtain ⟨b, off, cap, rfl, hbw, hc⟩ := id (hv.at0 l1)
  have HV := Lib.hid hv
  have HFT := Lib.hid (fun (w1 : World) (hv1 : IsInts w1 (.slice (some ⟨b, off, none⟩) cs.length cap) cs) => fewestUpTo_impl _ cs n w1 hv1 h1 (by omega))
  have HFU : Hid (∀ x : Nat, x ≤ 120 → 0 ≤ fuV cs (x : Int) ∧ fuV cs (x : Int) ≤ 1921) := fun x hx => by
    have := fu_bounds hp (x := (x : Int)) (by omega) (by omega); omega
  have n2 : (n : Int) < (n : Int) + 1 := by omega
  by_cases h3 : 0 ≤ fwV cs (n : Int)
  · have E : Hid (cFew cs (n : Int) = true) := cFew_yes h1 h0.2 h3
    have E1 : Hid (fewN cs (n : Int) = fuV cs (n : Int)) := by show _ = _; unfold fewN fuV; rw [E.out, if_pos rfl, if_neg (by omega)]
    have hub : (fuV cs (n : Int) == 1921) = false := by
      have := fw_bound hp h3
      unfold fuV
      rw [if_neg (by omega)]
      simp
      omega
    have HUB := Lib.hid hub
    have HBK := Lib.hid Backward_any
    have HFF := Lib.hid (fst_facts h1 b2.1 b2.2 h3)
    have HFS := Lib.hid (fst_snoc cs (n : Int))
    have HFN := Lib.hid (fst_nil cs (n : Int))
    have HNT := Lib.hid (nth_at h1)
    have HEND : Hid (∀ ys : List (Fin cs.length), (ys.map (nth cs)).reverse = cs → (fst' cs (n : Int) ys).1 = fewL cs (n : Int)) := fun ys hy => by
      unfold fewL; rw [E.out, if_pos rfl]; exact fst_end h1 (n : Int) hy
    have HTM : Hid (∀ (x : Fin cs.length) (y : Int), nth cs x ≤ y → fwV cs (y - nth cs x) = fwV cs y - 1 → takeC cs (nth cs x) y = takeC cs (nth cs x) (y - nth cs x) + 1) := fun x y h1' h2 => takeC_more (nth_at h1 x).1 h1' h2
    have HTE : Hid (∀ (x : Fin cs.length) (y : Int), ¬ (nth cs x ≤ y ∧ fwV cs (y - nth cs x) = fwV cs y - 1) → takeC cs (nth cs x) y = 0) := fun x y h => takeC_end (nth_at h1 x).1 h
    have HQ : Hid (∀ (c y : Nat), 1 ≤ c → c ≤ y → y ≤ 120 → 0 ≤ fwV cs (y : Int) → (fwV cs ((y - c : Nat) : Int) = fwV cs (y : Int) - 1 ↔ fuV cs ((y - c : Nat) : Int) = fuV cs (y : Int) - 1)) := fun c y hc1 hcy hy hf => by
      have g1 := fw_ge hp ((y - c : Nat) : Int)
      have g2 := fw_bound hp hf
      have g3 := fun e => fw_eq_zero hp (x := (y : Int)) e
      unfold fuV
      rw [if_neg (show ¬ fwV cs (y : Int) < 0 by omega)]
      constructor
      · intro he
        by_cases hz : fwV cs (y : Int) = 0
        · have := g3 hz; omega
        · rw [if_neg (by omega)]; exact he
      · intro he
        split at he <;> omega
    obtain ⟨i0, hi, hz0, hz1, hz2⟩ := info_parts infoInt
    clear hc hv h0 h1 hp b2
    refine (callsIn_wide (n := 3)).1 ?_
    refine callsIn_of_wp_marks Try.func21 rfl trivial ?_ rfl
    simp only [Try.ntmps21, List.size_toArray, List.length_cons, List.length_nil, Nat.reduceAdd, Nat.reduceSub, Array.replicate_succ, Array.replicate_zero, List.push_toArray, List.append_toArray, List.nil_append, List.cons_append]
    gi_wp2_with fail
    refine ⟨trivial, (callsIn_wide.2 (HCP.out _ H0.out)).mono ?_⟩
    rintro e w1 ⟨rfl, hd⟩
    gi_wp2_with fail
    have hb1 : Below w.heap.size w w1 := hd.below
    refine ⟨trivial, (callsIn_wide.2 (HFT.out w1 (HV.out.below hb1))).mono ?_⟩
    rintro e w2 ⟨gl, cl, rfl, hg, hown, hbl⟩
    have hs1 := hb1.size
    have hb2 : Below w.heap.size w w2 := hb1.trans (hbl.mono hs1)
    have hl2 := hown.base hs1
    have hll := hl2.baseLe
    have hs2 := hb2.size
    have p7 := Bx.new w2 (sl gl (n + 1) cl) 23
    have hl3 := hl2.below ((Below.refl w2.heap.size w2).alloc (Nat.le_refl _) (.cells #[sl gl (n + 1) cl] 23))
    have hb3 := hb2.alloc hs2 (.cells #[sl gl (n + 1) cl] 23)
    have hz3 : (w2.alloc (.cells #[sl gl (n + 1) cl] 23)).heap.size = w2.heap.size + 1 := by simp
    have q7 := p7.1
    have cn := hl3.cell (tabL_len _ _) n (by omega)
    rw [tabL_at _ (Nat.le_refl _)] at cn
    clear hown hbl hl2 hb2 HFT HCP hd hb1
    gi_wp2_with (gi_at_make; refine wpListIn_make_full _ rfl _ _ 23 rfl w.heap.size 3 i0 (.int .i64 0) 1 Try.underlying23 hi hz0 hz1 _ _ _ _ cs.length rfl rfl rfl rfl ?b2 ?b3 (by simp; omega) ?_)
    case b2 => rw [hz2]; omega
    case b3 => unfold maxLen; omega
    intro w3 hown0 hgrow0
    have hw23 : Below (w2.heap.size + 1) (w2.alloc (.cells #[sl gl (n + 1) cl] 23)) w3 := below_grown hgrow0 (by simp) (fun k h => by cases h)
    have hb4 : Below w.heap.size w w3 := hb3.trans (hw23.mono (by omega))
    have ho4 : Own w3 w.heap.size (sl (w2.heap.size + 1) cs.length cs.length) (List.replicate cs.length 0) := own_made hown0
    have hl4 := hl3.kept hgrow0 (.inr (by simp [Value.ownBlock]))
    have p74 : Bx w3 w2.heap.size (sl gl (n + 1) cl) := p7.below (by rw [hz3]; exact hw23)
    have hz4 : w2.heap.size + 1 < w3.heap.size := (ho4.baseLe).2
    clear hown0 hgrow0 hw23 hb3 hl3 p7 q7 cn hz3
    gi_wp2_with fail
    refine ⟨trivial, (callsIn_wide.2 (HBK.out _ _ _ _)).mono ?_⟩
    rintro e w' ⟨rfl, rfl⟩
    gi_wp2_with fail
    have p0 := ((p74.alloc (.cells #[sl (w2.heap.size + 1) cs.length cs.length] 23)).alloc (.cells #[.int .i64 (n : Int)] 3)).alloc (.cells #[.slice (some ⟨b, off, none⟩) cs.length cap] 23)
    have p1 := ((Bx.new w3 (sl (w2.heap.size + 1) cs.length cs.length) 23).alloc (.cells #[.int .i64 (n : Int)] 3)).alloc (.cells #[.slice (some ⟨b, off, none⟩) cs.length cap] 23)
    have p2 := (Bx.new (w3.alloc (.cells #[sl (w2.heap.size + 1) cs.length cs.length] 23)) (.int .i64 (n : Int)) 3).alloc (.cells #[.slice (some ⟨b, off, none⟩) cs.length cap] 23)
    have p3 := Bx.new ((w3.alloc (.cells #[sl (w2.heap.size + 1) cs.length cs.length] 23)).alloc (.cells #[.int .i64 (n : Int)] 3)) (.slice (some ⟨b, off, none⟩) cs.length cap) 23
    simp only [World.size_alloc] at p1 p2 p3
    have hs4 := hb4.size
    have hB6 := ((hb4.alloc hs4 (.cells #[sl (w2.heap.size + 1) cs.length cs.length] 23)).alloc (by simp; omega) (.cells #[.int .i64 (n : Int)] 3)).alloc (by simp; omega) (.cells #[.slice (some ⟨b, off, none⟩) cs.length cap] 23)
    have hAA := (((Below.refl w3.heap.size w3).alloc (Nat.le_refl _) (.cells #[sl (w2.heap.size + 1) cs.length cs.length] 23)).alloc (by simp) (.cells #[.int .i64 (n : Int)] 3)).alloc (by simp; omega) (.cells #[.slice (some ⟨b, off, none⟩) cs.length cap] 23)
    have hO6 := ho4.below hAA
    have hL6 := hl4.below hAA
    have hz6 : (((w3.alloc (.cells #[sl (w2.heap.size + 1) cs.length cs.length] 23)).alloc (.cells #[.int .i64 (n : Int)] 3)).alloc (.cells #[.slice (some ⟨b, off, none⟩) cs.length cap] 23)).heap.size = w3.heap.size + 1 + 1 + 1 := by simp
    generalize ((w3.alloc (.cells #[sl (w2.heap.size + 1) cs.length cs.length] 23)).alloc (.cells #[.int .i64 (n : Int)] 3)).alloc (.cells #[.slice (some ⟨b, off, none⟩) cs.length cap] 23) = W6 at *
    generalize w3.heap.size = k8 at *
    clear hAA ho4 hl4 p74 hb4
    generalize w2.heap.size = k7 at *
    have F0 := Lib.hid p0
    have F1 := Lib.hid p1
    have F2 := Lib.hid p2
    have HRd := Lib.hid (Rd.of (n0 := w.heap.size) p3.1 HV.out rfl hB6)
    have F5 := Lib.hid hB6
    have F6 := Lib.hid hz6
    have FL := Lib.hid hL6
    have HGI : Hid (Go.Proofs.Ytbkndncdhombeaa.Own W6 w.heap.size (sl (k7 + 1) cs.length cs.length) (fst' cs (n : Int) []).1 ∧ (fst' cs (n : Int) []).2 = (n : Int)) := by rw [HFN.out]; exact ⟨hO6, rfl⟩
    clear p0 p1 p2 p3 hB6 hO6 hL6 hz6
    refine wpIn_rangeFunc_ownF rfl (by omega) (gf := 69) (lb := #[.pointer (some ⟨k8 + 1 + 1, 0, none⟩)]) rfl trivial (enters_of Try.func69 (by kernel_rfl) rfl)
      (backward_stops Fence.wide _ trivial rfl (by omega) w.heap.size (k8 + 1 + 1) _ cs W6 HRd.out (by omega)) (fun h k r => k (h r)) (fun W l o o' _ h hc _ r => r.own (grownBy_putObj' W l o') (fun r e => by cases e; exact ⟨_, h, hc⟩)) (Below.refl _ _) (fun _ => rfl)
      (fun (pre : List (Fin cs.length)) W => (Bx W k7 (sl gl (n + 1) cl) ∧ Bx W k8 (sl (k7 + 1) cs.length cs.length) ∧ Bx W (k8 + 1) (.int .i64 (fst' cs (n : Int) pre).2) ∧ Go.Proofs.Ytbkndncdhombeaa.Own W w.heap.size (sl (k7 + 1) cs.length cs.length) (fst' cs (n : Int) pre).1 ∧ Go.Proofs.Ytbkndncdhombeaa.Own W w.heap.size (sl gl (n + 1) cl) (tabL (fuV cs) n)) ∧ Below w.heap.size w W)
      (fun _ (_ : List (Fin cs.length)) _ => False)
      (OwnFrom.and (Go.Own.from (fun s A B row hs hg hr => ⟨hs.1.own hg hr, hs.2.1.own hg hr, hs.2.2.1.own hg hr, Go.Proofs.Ytbkndncdhombeaa.Own.own hs.2.2.2.1 l1 (HFF.out _).1 hg hr, Go.Proofs.Ytbkndncdhombeaa.Own.own hs.2.2.2.2 (Nat.le_add_left 1 n) (tabL_len _ _) hg hr⟩) _) (ownFrom_below (Nat.le_refl _) F5.out.size))
      (fun c => Go.Own.from (fun s A B row hs hg hr => hs) _)
      ⟨⟨F0.out, F1.out, by rw [HGI.out.2]; exact F2.out, HGI.out.1, FL.out⟩, F5.out⟩
      (fun x => { tmps := #[.slice (some ⟨b, off, none⟩) cs.length cap, .int .i64 (n : Int), undef, undef, .int .i64 0, .slice none 0 0, .bool false, .pointer (some ⟨k7, 0, none⟩), .pointer (some ⟨k8, 0, none⟩), .pointer (some ⟨k8 + 1, 0, none⟩), .int .i64 (x.val : Nat), .int .i64 (nth cs x), .slice (some ⟨b, off, none⟩) cs.length cap, .int .i64 (n : Int), .bool true, .bool false, .slice (some ⟨b, off, none⟩) cs.length cap, .int .i64 (n : Int), sl gl (n + 1) cl, sl gl (n + 1) cl, .int .i64 (n : Int), .pointer (some ⟨gl, n, none⟩), .int .i64 (fuV cs (n : Int)), .bool false, .slice (some ⟨b, off, none⟩) cs.length cap, .int .i64 cs.length, .slice (some ⟨k7 + 1, 0, none⟩) cs.length cs.length, .int .i64 (n : Int), .slice (some ⟨b, off, none⟩) cs.length cap, .func (.func 69) #[] #[.pointer (some ⟨k8 + 1 + 1, 0, none⟩)], .int .i64 (x.val : Nat), .int .i64 (nth cs x), undef, undef, undef, undef, undef, undef, undef, undef, undef, undef, undef, undef, undef, undef, undef, undef, undef, undef, undef, undef, undef, undef, undef, undef, undef, undef, undef, undef, undef, undef, undef], defers := [] }) ?assign ?body ?done ?stop
    case assign =>
      intro l x W K hK
      gi_wp2
      exact hK
    case body =>
      rintro l pre x W ⟨⟨b0, b1, b2, bo, bl⟩, hB⟩ hlen
      obtain ⟨hL, hy0, hyn, hyf, hcb⟩ := HFF.out pre
      have hnt := HNT.out x
      have hi1 := x.isLt
      have HS := Lib.hid (HFS.out pre x)
      have hci := hcb x.val
      have HTMx := HTM.out x
      have HTEx := HTE.out x
      obtain ⟨c, hcn⟩ : ∃ c : Nat, nth cs x = c := ⟨(nth cs x).toNat, by omega⟩
      obtain ⟨y0, hyy⟩ : ∃ y : Nat, (fst' cs (n : Int) pre).2 = y := ⟨(fst' cs (n : Int) pre).2.toNat, by omega⟩
      have hpl : (pre.length : Int) ≤ 5 := by omega
      obtain ⟨q0, hq0⟩ : ∃ q : Nat, (fst' cs (n : Int) pre).1.getD x.val 0 = q := ⟨((fst' cs (n : Int) pre).1.getD x.val 0).toNat, by omega⟩
      have HS1 : Hid ((fst' cs (n : Int) (pre ++ [x])).1 = (fst' cs (n : Int) pre).1.set x.val ((q0 : Int) + takeC cs c y0) ∧ (fst' cs (n : Int) (pre ++ [x])).2 = (y0 : Int) - takeC cs c y0 * c) := by rw [HS.out, hyy, hcn, hq0]; exact ⟨rfl, rfl⟩
      rw [hyy] at b2 hyn hyf
      rw [hcn] at hnt HTMx HTEx ⊢
      rw [hq0] at hci
      have hq600 : q0 ≤ 600 := by omega
      have hset0 : (fst' cs (n : Int) pre).1 = (fst' cs (n : Int) pre).1.set x.val (q0 : Int) := by
        rw [← hq0]
        apply List.ext_getElem
        · simp
        · intro j j1 j2
          rw [List.getElem_set]
          split
          · rename_i e; subst e; simp [List.getD, j1]
          · rfl
      rw [hset0] at bo
      have HS0 := Lib.hid hset0
      clear hyy hcn HS hcb hq0 hci hset0 hy0
      generalize (fst' cs (n : Int) pre).1 = L at *
      obtain ⟨i, hxi⟩ : ∃ i : Nat, x.val = i := ⟨_, rfl⟩
      rw [hxi] at HS1 hi1 bo ⊢
      have HXI := Lib.hid hxi
      have HTMh := Lib.hid HTMx
      have HTEh := Lib.hid HTEx
      clear hxi HTMx HTEx
      have i1 : (i : Int) < (cs.length : Int) := by omega
      have hc1 : 1 ≤ c := by omega
      have hB0 := Lib.hid hB
      gi_wp2
      gi_loopw [48] (fun _ wr => ∃ y k : Nat, y ≤ 120 ∧ (y : Int) = y0 - k * c ∧ 0 ≤ fwV cs (y : Int) ∧ takeC cs c y0 = k + takeC cs c y ∧ k + y ≤ 120 ∧
        (Bx wr k7 (sl gl (n + 1) cl) ∧ Bx wr k8 (sl (k7 + 1) cs.length cs.length) ∧ Bx wr (k8 + 1) (.int .i64 (y : Int)) ∧ Go.Proofs.Ytbkndncdhombeaa.Own wr w.heap.size (sl (k7 + 1) cs.length cs.length) (L.set i ((q0 : Int) + k)) ∧ Go.Proofs.Ytbkndncdhombeaa.Own wr w.heap.size (sl gl (n + 1) cl) (tabL (fuV cs) n)) ∧ Below w.heap.size w wr ∧
        KeepsOthers W wr ∧ (Rd w.heap.size (k8 + 1 + 1) (.slice (some ⟨b, off, none⟩) cs.length cap) cs W → Rd w.heap.size (k8 + 1 + 1) (.slice (some ⟨b, off, none⟩) cs.length cap) cs wr)) (fun _ wr => (intOf ((wr.cell? ⟨k8 + 1, 0, none⟩).getD undef)).toNat)
      case atStart =>
        exact ⟨y0, 0, by omega, by omega, hyf, by omega, by omega, ⟨b0, b1, b2, by simpa using bo, bl⟩, hB, KeepsOthers.refl _, fun r => r⟩
      case round =>
        clear b0 b1 b2 bo bl hB
        obtain ⟨y, k, hy120, hyk, hfy, htk, hk120, ⟨b0, b1, b2, bo, bl⟩, hB, hKO, hRR⟩ := hrel
        have e7 := b0.1
        have e8 := b1.1
        have e9 := b2.1
        have f9 := b2.2
        have hyn : y ≤ n := by
          have : 0 ≤ (k : Int) * c := Int.mul_nonneg (by omega) (by omega)
          omega
        have y1 : (y : Int) < (n : Int) + 1 := by omega
        have y0' : (0 : Int) ≤ (y : Int) := by omega
        have hSL : (L.set i ((q0 : Int) + k)).length = cs.length := by simpa using hL
        have ci := bo.cell hSL i hi1
        have fi := bo.frozen hSL i
        rw [getD_setI _ _ _ _ (by rw [hL]; exact hi1), if_pos rfl] at ci
        have HTKy := Lib.hid htk
        have HYK := Lib.hid hyk
        have G0 := Lib.hid b0
        have G1 := Lib.hid b1
        have G2 := Lib.hid b2
        have GO := Lib.hid bo
        have GL := Lib.hid bl
        have GB := Lib.hid hB
        have HKO := Lib.hid hKO
        have HRR := Lib.hid hRR
        have HFY : Hid (∀ t : Nat, t = y → 0 ≤ fwV cs (t : Int)) := fun t e => by rw [e]; exact hfy
        have hKD : KeepsOthers wr wr.drew := KeepsOthers.of_grownBy (row := none) ⟨rfl, rfl, rfl, Nat.le_refl _, fun _ _ _ => rfl⟩ (fun j o e => by cases e)
        have HDR : Hid ((Bx wr.drew k7 (sl gl (n + 1) cl) ∧ Bx wr.drew k8 (sl (k7 + 1) cs.length cs.length) ∧ Bx wr.drew (k8 + 1) (.int .i64 (y : Int)) ∧ Go.Proofs.Ytbkndncdhombeaa.Own wr.drew w.heap.size (sl (k7 + 1) cs.length cs.length) (L.set i ((q0 : Int) + k)) ∧ Go.Proofs.Ytbkndncdhombeaa.Own wr.drew w.heap.size (sl gl (n + 1) cl) (tabL (fuV cs) n)) ∧ Below w.heap.size w wr.drew ∧
            KeepsOthers W wr.drew ∧ (Rd w.heap.size (k8 + 1 + 1) (.slice (some ⟨b, off, none⟩) cs.length cap) cs W → Rd w.heap.size (k8 + 1 + 1) (.slice (some ⟨b, off, none⟩) cs.length cap) cs wr.drew)) :=
          ⟨⟨b0, b1, b2, bo.below ((Below.refl wr.heap.size wr).drew), bl.below ((Below.refl wr.heap.size wr).drew)⟩, hB.drew, hKO.trans hKD, fun r => (hRR r)⟩
        have HEXIT : Hid (takeC cs c (y : Int) = 0 → ownPostK
            (fun A B => Rd w.heap.size (k8 + 1 + 1) (.slice (some ⟨b, off, none⟩) cs.length cap) cs A → Rd w.heap.size (k8 + 1 + 1) (.slice (some ⟨b, off, none⟩) cs.length cap) cs B)
            (fun (pre : List (Fin cs.length)) W => (Bx W k7 (sl gl (n + 1) cl) ∧ Bx W k8 (sl (k7 + 1) cs.length cs.length) ∧ Bx W (k8 + 1) (.int .i64 (fst' cs (n : Int) pre).2) ∧ Go.Proofs.Ytbkndncdhombeaa.Own W w.heap.size (sl (k7 + 1) cs.length cs.length) (fst' cs (n : Int) pre).1 ∧ Go.Proofs.Ytbkndncdhombeaa.Own W w.heap.size (sl gl (n + 1) cl) (tabL (fuV cs) n)) ∧ Below w.heap.size w W)
            (fun _ (_ : List (Fin cs.length)) _ => False) (pre ++ [x]) W .normal { tmps := #[], defers := [] } wr.drew) := fun ht => by
          have hN : takeC cs c (y0 : Int) = k := by rw [HTKy.out, ht]; rfl
          refine ⟨HDR.out.2.2.1, HDR.out.2.2.2, ⟨HDR.out.1.1, HDR.out.1.2.1, ?_, ?_, HDR.out.1.2.2.2.2⟩, HDR.out.2.1⟩
          · rw [HS1.out.2, hN, ← hyk]; exact HDR.out.1.2.2.1
          · rw [HS1.out.1, hN]; exact HDR.out.1.2.2.2.1
        clear b0 b1 b2 bo bl hB hKO hRR hyk htk hKD
        by_cases hle : c ≤ y
        · have x1 : (c : Int) ≤ (y : Int) := by omega
          have hd2 : decide ((c : Int) ≤ (y : Int)) = true := decide_eq_true x1
          have x3 : (0 : Int) ≤ (y : Int) - (c : Int) := by omega
          have x4 : (y : Int) - (c : Int) < (n : Int) + 1 := by omega
          have x5 : ((y : Int) - (c : Int)).toNat = y - c := by omega
          have hw1 : IntKind.i64.wrap ((y : Int) - (c : Int)) = (y : Int) - (c : Int) := IntWalk.i64_in _ (by omega)
          have cy := GL.out.cell (tabL_len _ _) y (by omega)
          rw [tabL_at _ (by omega)] at cy
          have cz := GL.out.cell (tabL_len _ _) (y - c) (by omega)
          rw [tabL_at _ (by omega)] at cz
          have u1 := HFU.out y (by omega)
          have u2 := HFU.out (y - c) (by omega)
          have hQ := HQ.out c y hc1 hle hy120 hfy
          have HT1 := Lib.hid (HTMh.out (y : Int) x1)
          have HT0 := Lib.hid (HTEh.out (y : Int))
          have HIFF : Hid (fuV cs ((y - c : Nat) : Int) = fuV cs (y : Int) - 1 → takeC cs c (y : Int) = takeC cs c ((y - c : Nat) : Int) + 1 ∧ 0 ≤ fwV cs ((y - c : Nat) : Int)) := fun h => by
            have h2 := hQ.2 h
            have h3 := HT1.out (by rw [show (y : Int) - (c : Int) = ((y - c : Nat) : Int) by omega]; exact h2)
            rw [show (y : Int) - (c : Int) = ((y - c : Nat) : Int) by omega] at h3
            refine ⟨h3, ?_⟩
            by_cases hz : fwV cs (y : Int) = 0
            · have := fw_eq_zero (vc_pos (by have := H0.out; rw [Bool.and_eq_true] at this; exact this.1)) hz
              omega
            · omega
          have HNOT : Hid (fuV cs ((y - c : Nat) : Int) ≠ fuV cs (y : Int) - 1 → takeC cs c (y : Int) = 0) := fun h => HT0.out (fun h2 => h (hQ.1 (by have := h2.2; rwa [show (y : Int) - (c : Int) = ((y - c : Nat) : Int) by omega] at this)))
          clear hQ HT1 HT0
          generalize hpp : fuV cs ((y - c : Nat) : Int) = p at *
          generalize huu : fuV cs (y : Int) = u at *
          clear hpp huu
          have hw2 : IntKind.i64.wrap (u - 1) = u - 1 := IntWalk.i64_in _ (by omega)
          obtain ⟨q, hq⟩ : ∃ q : Bool, (p == u - 1) = q := ⟨_, rfl⟩
          have HIFF2 : Hid (q = true → takeC cs c (y : Int) = takeC cs c ((y - c : Nat) : Int) + 1 ∧ 0 ≤ fwV cs ((y - c : Nat) : Int)) := fun h => HIFF.out (by rw [← hq] at h; simpa using h)
          have HNOT2 : Hid (q = false → takeC cs c (y : Int) = 0) := fun h => HNOT.out (by rw [← hq] at h; simpa using h)
          clear HIFF HNOT
          gi_wp2
          refine wpIn_region_inv (by kernel_rfl) (by kernel_rfl) (fun listed a w' => ∃ b0 b1 b2 b3 b4 b5 b6 b7 b8 b9 b10 b11 b12 b13 b14 b15 b16 : Bool, listed = #[b0, b1, b2, b3, b4, b5, b6, b7, b8, b9, b10, b11, b12, b13, b14, b15, b16] ∧ a = { tmps := #[.slice (some ⟨b, off, none⟩) cs.length cap, .int .i64 (n : Int), undef, undef, .int .i64 0, .slice none 0 0, .bool false, .pointer (some ⟨k7, 0, none⟩), .pointer (some ⟨k8, 0, none⟩), .pointer (some ⟨k8 + 1, 0, none⟩), .int .i64 (i : Int), .int .i64 (c : Int), .slice (some ⟨b, off, none⟩) cs.length cap, .int .i64 (n : Int), .bool true, .bool false, .slice (some ⟨b, off, none⟩) cs.length cap, .int .i64 (n : Int), sl gl (n + 1) cl, sl gl (n + 1) cl, .int .i64 (n : Int), .pointer (some ⟨gl, n, none⟩), .int .i64 (fuV cs (n : Int)), .bool false, .slice (some ⟨b, off, none⟩) cs.length cap, .int .i64 cs.length, .slice (some ⟨k7 + 1, 0, none⟩) cs.length cs.length, .int .i64 (n : Int), .slice (some ⟨b, off, none⟩) cs.length cap, .func (.func 69) #[] #[.pointer (some ⟨k8 + 1 + 1, 0, none⟩)], .int .i64 (i : Int), .int .i64 (c : Int), (bif b0 then .int .i64 (y : Int) else u32), (bif b1 then .int .i64 (c : Int) else u33), (bif b2 then .bool true else u34), (bif b3 then .bool true else u35), (bif b4 then sl gl (n + 1) cl else u36), (bif b5 then .int .i64 (y : Int) else u37), (bif b6 then .int .i64 (c : Int) else u38), (bif b7 then .int .i64 ((y : Int) - (c : Int)) else u39), (bif b8 then .pointer (some ⟨gl, y - c, none⟩) else u40), (bif b9 then .int .i64 p else u41), (bif b10 then sl gl (n + 1) cl else u42), (bif b11 then .int .i64 (y : Int) else u43), (bif b12 then .pointer (some ⟨gl, y, none⟩) else u44), (bif b13 then .int .i64 u else u45), (bif b14 then .int .i64 (u - 1) else u46), (bif b15 then .bool q else u47), (bif b16 then .bool q else u48), u49, u50, u51, u52, u53, u54, u55, u56, u57, undef, undef, undef, undef, undef], defers := [] } ∧ w' = wr.drew) ?size ?first ?step ?last
          case size =>
            rintro listed a w' ⟨b0, b1, b2, b3, b4, b5, b6, b7, b8, b9, b10, b11, b12, b13, b14, b15, b16, rfl, _⟩
            rfl
          case first =>
            exact ⟨false, false, false, false, false, false, false, false, false, false, false, false, false, false, false, false, false, rfl, rfl, rfl⟩
          case step =>
            rintro listed a w' j ⟨b0, b1, b2, b3, b4, b5, b6, b7, b8, b9, b10, b11, b12, b13, b14, b15, b16, rfl, rfl, rfl⟩ hj
            obtain ⟨h1, o, ho, hdeps⟩ := mem_ready.1 hj
            clear hj
            rcases j with _ | _ | _ | _ | _ | _ | _ | _ | _ | _ | _ | _ | _ | _ | _ | _ | _ | j
            all_goals first | (simp at ho; done) | (simp only [List.getElem?_toArray, List.getElem?_cons_zero, List.getElem?_cons_succ, Option.some.injEq] at ho; subst ho)
            · have hk : b0 = false := by simpa using h1
              subst hk
              clear h1 hdeps
              refine wpOpIn_of rfl rfl (wpIn_val (fun _ h => by cases h) (by dsimp only [cond_true, cond_false]; go_simp <;> first | rfl | exact ⟨rfl, rfl⟩) ?_)
              exact ⟨true, b1, b2, b3, b4, b5, b6, b7, b8, b9, b10, b11, b12, b13, b14, b15, b16, rfl, rfl, rfl⟩
            · have hk : b1 = false := by simpa using h1
              subst hk
              clear h1 hdeps
              refine wpOpIn_of rfl rfl (wpIn_val (fun _ h => by cases h) (by dsimp only [cond_true, cond_false]; go_simp <;> first | rfl | exact ⟨rfl, rfl⟩) ?_)
              exact ⟨b0, true, b2, b3, b4, b5, b6, b7, b8, b9, b10, b11, b12, b13, b14, b15, b16, rfl, rfl, rfl⟩
            · have hk : b2 = false := by simpa using h1
              have d0 : b0 = true := by
                have := hdeps ⟨0, .data⟩ (by simp) rfl
                simpa using this
              have d1 : b1 = true := by
                have := hdeps ⟨1, .data⟩ (by simp) rfl
                simpa using this
              subst hk d0 d1
              clear h1 hdeps
              refine wpOpIn_of rfl rfl (wpIn_val (fun _ h => by cases h) (by dsimp only [cond_true, cond_false]; go_simp <;> first | rfl | exact ⟨rfl, rfl⟩) ?_)
              exact ⟨true, true, true, b3, b4, b5, b6, b7, b8, b9, b10, b11, b12, b13, b14, b15, b16, rfl, rfl, rfl⟩
            · have hk : b3 = false := by simpa using h1
              have d2 : b2 = true := by
                have := hdeps ⟨2, .data⟩ (by simp) rfl
                simpa using this
              subst hk d2
              clear h1 hdeps
              refine wpOpIn_of rfl rfl (wpIn_val (fun _ h => by cases h) (by dsimp only [cond_true, cond_false]; go_simp <;> first | rfl | exact ⟨rfl, rfl⟩) ?_)
              exact ⟨b0, b1, true, true, b4, b5, b6, b7, b8, b9, b10, b11, b12, b13, b14, b15, b16, rfl, rfl, rfl⟩
            · have hk : b4 = false := by simpa using h1
              have d3 : b3 = true := by
                have := hdeps ⟨3, .guard⟩ (by simp) rfl
                simpa using this
              subst hk d3
              clear h1 hdeps
              refine wpOpIn_of rfl rfl (wpIn_val (fun _ h => by cases h) (by dsimp only [cond_true, cond_false]; go_simp <;> first | rfl | exact ⟨rfl, rfl⟩) ?_)
              exact ⟨b0, b1, b2, true, true, b5, b6, b7, b8, b9, b10, b11, b12, b13, b14, b15, b16, rfl, rfl, rfl⟩
            · have hk : b5 = false := by simpa using h1
              have d3 : b3 = true := by
                have := hdeps ⟨3, .guard⟩ (by simp) rfl
                simpa using this
              subst hk d3
              clear h1 hdeps
              refine wpOpIn_of rfl rfl (wpIn_val (fun _ h => by cases h) (by dsimp only [cond_true, cond_false]; go_simp <;> first | rfl | exact ⟨rfl, rfl⟩) ?_)
              exact ⟨b0, b1, b2, true, b4, true, b6, b7, b8, b9, b10, b11, b12, b13, b14, b15, b16, rfl, rfl, rfl⟩
            · have hk : b6 = false := by simpa using h1
              have d3 : b3 = true := by
                have := hdeps ⟨3, .guard⟩ (by simp) rfl
                simpa using this
              subst hk d3
              clear h1 hdeps
              refine wpOpIn_of rfl rfl (wpIn_val (fun _ h => by cases h) (by dsimp only [cond_true, cond_false]; go_simp <;> first | rfl | exact ⟨rfl, rfl⟩) ?_)
              exact ⟨b0, b1, b2, true, b4, b5, true, b7, b8, b9, b10, b11, b12, b13, b14, b15, b16, rfl, rfl, rfl⟩
            · have hk : b7 = false := by simpa using h1
              have d5 : b5 = true := by
                have := hdeps ⟨5, .data⟩ (by simp) rfl
                simpa using this
              have d6 : b6 = true := by
                have := hdeps ⟨6, .data⟩ (by simp) rfl
                simpa using this
              have d3 : b3 = true := by
                have := hdeps ⟨3, .guard⟩ (by simp) rfl
                simpa using this
              subst hk d5 d6 d3
              clear h1 hdeps
              refine wpOpIn_of rfl rfl (wpIn_val (fun _ h => by cases h) (by dsimp only [cond_true, cond_false]; go_simp <;> first | rfl | exact ⟨rfl, rfl⟩) ?_)
              exact ⟨b0, b1, b2, true, b4, true, true, true, b8, b9, b10, b11, b12, b13, b14, b15, b16, rfl, rfl, rfl⟩
            · have hk : b8 = false := by simpa using h1
              have d4 : b4 = true := by
                have := hdeps ⟨4, .data⟩ (by simp) rfl
                simpa using this
              have d7 : b7 = true := by
                have := hdeps ⟨7, .data⟩ (by simp) rfl
                simpa using this
              have d3 : b3 = true := by
                have := hdeps ⟨3, .guard⟩ (by simp) rfl
                simpa using this
              subst hk d4 d7 d3
              clear h1 hdeps
              refine wpOpIn_of rfl rfl (wpIn_val (fun _ h => by cases h) (by dsimp only [cond_true, cond_false]; go_simp <;> first | rfl | exact ⟨rfl, rfl⟩) ?_)
              exact ⟨b0, b1, b2, true, true, b5, b6, true, true, b9, b10, b11, b12, b13, b14, b15, b16, rfl, rfl, rfl⟩
            · have hk : b9 = false := by simpa using h1
              have d8 : b8 = true := by
                have := hdeps ⟨8, .data⟩ (by simp) rfl
                simpa using this
              have d3 : b3 = true := by
                have := hdeps ⟨3, .guard⟩ (by simp) rfl
                simpa using this
              subst hk d8 d3
              clear h1 hdeps
              refine wpOpIn_of rfl rfl (wpIn_val (fun _ h => by cases h) (by dsimp only [cond_true, cond_false]; go_simp <;> first | rfl | exact ⟨rfl, rfl⟩) ?_)
              exact ⟨b0, b1, b2, true, b4, b5, b6, b7, true, true, b10, b11, b12, b13, b14, b15, b16, rfl, rfl, rfl⟩
            · have hk : b10 = false := by simpa using h1
              have d3 : b3 = true := by
                have := hdeps ⟨3, .guard⟩ (by simp) rfl
                simpa using this
              subst hk d3
              clear h1 hdeps
              refine wpOpIn_of rfl rfl (wpIn_val (fun _ h => by cases h) (by dsimp only [cond_true, cond_false]; go_simp <;> first | rfl | exact ⟨rfl, rfl⟩) ?_)
              exact ⟨b0, b1, b2, true, b4, b5, b6, b7, b8, b9, true, b11, b12, b13, b14, b15, b16, rfl, rfl, rfl⟩
            · have hk : b11 = false := by simpa using h1
              have d3 : b3 = true := by
                have := hdeps ⟨3, .guard⟩ (by simp) rfl
                simpa using this
              subst hk d3
              clear h1 hdeps
              refine wpOpIn_of rfl rfl (wpIn_val (fun _ h => by cases h) (by dsimp only [cond_true, cond_false]; go_simp <;> first | rfl | exact ⟨rfl, rfl⟩) ?_)
              exact ⟨b0, b1, b2, true, b4, b5, b6, b7, b8, b9, b10, true, b12, b13, b14, b15, b16, rfl, rfl, rfl⟩
            · have hk : b12 = false := by simpa using h1
              have d10 : b10 = true := by
                have := hdeps ⟨10, .data⟩ (by simp) rfl
                simpa using this
              have d11 : b11 = true := by
                have := hdeps ⟨11, .data⟩ (by simp) rfl
                simpa using this
              have d3 : b3 = true := by
                have := hdeps ⟨3, .guard⟩ (by simp) rfl
                simpa using this
              subst hk d10 d11 d3
              clear h1 hdeps
              refine wpOpIn_of rfl rfl (wpIn_val (fun _ h => by cases h) (by dsimp only [cond_true, cond_false]; go_simp <;> first | rfl | exact ⟨rfl, rfl⟩) ?_)
              exact ⟨b0, b1, b2, true, b4, b5, b6, b7, b8, b9, true, true, true, b13, b14, b15, b16, rfl, rfl, rfl⟩
            · have hk : b13 = false := by simpa using h1
              have d12 : b12 = true := by
                have := hdeps ⟨12, .data⟩ (by simp) rfl
                simpa using this
              have d3 : b3 = true := by
                have := hdeps ⟨3, .guard⟩ (by simp) rfl
                simpa using this
              subst hk d12 d3
              clear h1 hdeps
              refine wpOpIn_of rfl rfl (wpIn_val (fun _ h => by cases h) (by dsimp only [cond_true, cond_false]; go_simp <;> first | rfl | exact ⟨rfl, rfl⟩) ?_)
              exact ⟨b0, b1, b2, true, b4, b5, b6, b7, b8, b9, b10, b11, true, true, b14, b15, b16, rfl, rfl, rfl⟩
            · have hk : b14 = false := by simpa using h1
              have d13 : b13 = true := by
                have := hdeps ⟨13, .data⟩ (by simp) rfl
                simpa using this
              have d3 : b3 = true := by
                have := hdeps ⟨3, .guard⟩ (by simp) rfl
                simpa using this
              subst hk d13 d3
              clear h1 hdeps
              refine wpOpIn_of rfl rfl (wpIn_val (fun _ h => by cases h) (by dsimp only [cond_true, cond_false]; go_simp <;> first | rfl | exact ⟨rfl, rfl⟩) ?_)
              exact ⟨b0, b1, b2, true, b4, b5, b6, b7, b8, b9, b10, b11, b12, true, true, b15, b16, rfl, rfl, rfl⟩
            · have hk : b15 = false := by simpa using h1
              have d9 : b9 = true := by
                have := hdeps ⟨9, .data⟩ (by simp) rfl
                simpa using this
              have d14 : b14 = true := by
                have := hdeps ⟨14, .data⟩ (by simp) rfl
                simpa using this
              have d3 : b3 = true := by
                have := hdeps ⟨3, .guard⟩ (by simp) rfl
                simpa using this
              subst hk d9 d14 d3
              clear h1 hdeps
              refine wpOpIn_of rfl rfl (wpIn_val (fun _ h => by cases h) (by dsimp only [cond_true, cond_false]; go_simp <;> first | rfl | exact ⟨rfl, rfl⟩) ?_)
              exact ⟨b0, b1, b2, true, b4, b5, b6, b7, b8, true, b10, b11, b12, b13, true, true, b16, rfl, rfl, rfl⟩
            · have hk : b16 = false := by simpa using h1
              have d3 : b3 = true := by
                have := hdeps ⟨3, .data⟩ (by simp) rfl
                simpa using this
              have d15 : b15 = true := by
                have := hdeps ⟨15, .data⟩ (by simp) rfl
                simpa using this
              subst hk d3 d15
              clear h1 hdeps
              refine wpOpIn_of rfl rfl (wpIn_val (fun _ h => by cases h) (by dsimp only [cond_true, cond_false]; go_simp <;> first | rfl | exact ⟨rfl, rfl⟩) ?_)
              exact ⟨b0, b1, b2, true, b4, b5, b6, b7, b8, b9, b10, b11, b12, b13, b14, true, true, rfl, rfl, rfl⟩
          case last =>
            rintro listed a w' ⟨b0, b1, b2, b3, b4, b5, b6, b7, b8, b9, b10, b11, b12, b13, b14, b15, b16, rfl, rfl, rfl⟩ hall
            have ha : ∀ j, j < 17 → #[b0, b1, b2, b3, b4, b5, b6, b7, b8, b9, b10, b11, b12, b13, b14, b15, b16].getD j true = true := hall
            have a0 : b0 = true := ha 0 (by omega)
            have a1 : b1 = true := ha 1 (by omega)
            have a2 : b2 = true := ha 2 (by omega)
            have a3 : b3 = true := ha 3 (by omega)
            have a4 : b4 = true := ha 4 (by omega)
            have a5 : b5 = true := ha 5 (by omega)
            have a6 : b6 = true := ha 6 (by omega)
            have a7 : b7 = true := ha 7 (by omega)
            have a8 : b8 = true := ha 8 (by omega)
            have a9 : b9 = true := ha 9 (by omega)
            have a10 : b10 = true := ha 10 (by omega)
            have a11 : b11 = true := ha 11 (by omega)
            have a12 : b12 = true := ha 12 (by omega)
            have a13 : b13 = true := ha 13 (by omega)
            have a14 : b14 = true := ha 14 (by omega)
            have a15 : b15 = true := ha 15 (by omega)
            have a16 : b16 = true := ha 16 (by omega)
            subst a0 a1 a2 a3 a4 a5 a6 a7 a8 a9 a10 a11 a12 a13 a14 a15 a16
            clear ha hall
            dsimp only [cond_true]
            clear hq cy cz hw2 hd2
            cases q
            · have HX := Lib.hid (HEXIT.out (HNOT2.out rfl))
              clear HEXIT HNOT2 HIFF2
              gi_wp2
              exact HX.out
            · obtain ⟨t1, t2⟩ := HIFF2.out rfl
              have HT1 := Lib.hid t1
              have HT2 := Lib.hid t2
              have hw3 : IntKind.i64.wrap ((q0 : Int) + (k : Int) + 1) = (q0 : Int) + (k : Int) + 1 := IntWalk.i64_in _ (by omega)
              have s1 := HDR.out.1.2.2.2.1.set hSL i ((q0 : Int) + (k : Int) + 1)
              rw [set_setI] at s1
              have s2 := Bx.otherAt (W := wr.drew) G2.out ⟨k7 + 1, i, none⟩ (by simp; omega) (.int .i64 ((q0 : Int) + (k : Int) + 1))
              have z1 := s2.1
              have z2 := s2.2
              have HW : Hid ((Bx ((wr.drew.setCell ⟨k7 + 1, i, none⟩ (.int .i64 ((q0 : Int) + (k : Int) + 1))).setCell ⟨k8 + 1, 0, none⟩ (.int .i64 ((y : Int) - (c : Int)))) k7 (sl gl (n + 1) cl) ∧ Bx ((wr.drew.setCell ⟨k7 + 1, i, none⟩ (.int .i64 ((q0 : Int) + (k : Int) + 1))).setCell ⟨k8 + 1, 0, none⟩ (.int .i64 ((y : Int) - (c : Int)))) k8 (sl (k7 + 1) cs.length cs.length) ∧
                  Bx ((wr.drew.setCell ⟨k7 + 1, i, none⟩ (.int .i64 ((q0 : Int) + (k : Int) + 1))).setCell ⟨k8 + 1, 0, none⟩ (.int .i64 ((y : Int) - (c : Int)))) (k8 + 1) (.int .i64 ((y - c : Nat) : Int)) ∧
                  Go.Proofs.Ytbkndncdhombeaa.Own ((wr.drew.setCell ⟨k7 + 1, i, none⟩ (.int .i64 ((q0 : Int) + (k : Int) + 1))).setCell ⟨k8 + 1, 0, none⟩ (.int .i64 ((y : Int) - (c : Int)))) w.heap.size (sl (k7 + 1) cs.length cs.length) (L.set i ((q0 : Int) + ((k + 1 : Nat) : Int))) ∧
                  Go.Proofs.Ytbkndncdhombeaa.Own ((wr.drew.setCell ⟨k7 + 1, i, none⟩ (.int .i64 ((q0 : Int) + (k : Int) + 1))).setCell ⟨k8 + 1, 0, none⟩ (.int .i64 ((y : Int) - (c : Int)))) w.heap.size (sl gl (n + 1) cl) (tabL (fuV cs) n)) ∧
                  Below w.heap.size w ((wr.drew.setCell ⟨k7 + 1, i, none⟩ (.int .i64 ((q0 : Int) + (k : Int) + 1))).setCell ⟨k8 + 1, 0, none⟩ (.int .i64 ((y : Int) - (c : Int)))) ∧
                  KeepsOthers W ((wr.drew.setCell ⟨k7 + 1, i, none⟩ (.int .i64 ((q0 : Int) + (k : Int) + 1))).setCell ⟨k8 + 1, 0, none⟩ (.int .i64 ((y : Int) - (c : Int)))) ∧
                  (Rd w.heap.size (k8 + 1 + 1) (.slice (some ⟨b, off, none⟩) cs.length cap) cs W → Rd w.heap.size (k8 + 1 + 1) (.slice (some ⟨b, off, none⟩) cs.length cap) cs ((wr.drew.setCell ⟨k7 + 1, i, none⟩ (.int .i64 ((q0 : Int) + (k : Int) + 1))).setCell ⟨k8 + 1, 0, none⟩ (.int .i64 ((y : Int) - (c : Int)))))) := by
                have hgs := Go.grownBy_setCell' (wr.drew.setCell ⟨k7 + 1, i, none⟩ (.int .i64 ((q0 : Int) + (k : Int) + 1))) (k8 + 1) (.int .i64 ((y : Int) - (c : Int)))
                refine ⟨⟨?_, ?_, ?_, ?_, ?_⟩, ?_, ?_, fun r => ?_⟩
                · exact (Bx.otherAt (W := wr.drew) G0.out ⟨k7 + 1, i, none⟩ (by simp) _).otherAt ⟨k8 + 1, 0, none⟩ (by simp; omega) _
                · exact (Bx.otherAt (W := wr.drew) G1.out ⟨k7 + 1, i, none⟩ (by simp; omega) _).otherAt ⟨k8 + 1, 0, none⟩ (by simp) _
                · rw [show ((y - c : Nat) : Int) = (y : Int) - (c : Int) by omega]
                  exact s2.set _
                · rw [show (q0 : Int) + ((k + 1 : Nat) : Int) = (q0 : Int) + (k : Int) + 1 by omega]
                  exact s1.1.kept hgs (.inr (by simp [Value.ownBlock]; omega))
                · exact (HDR.out.1.2.2.2.2.kept s1.2 (.inr (by simp [Value.ownBlock]; omega))).kept hgs (.inr (by simp [Value.ownBlock]; omega))
                · exact (HDR.out.2.1.setCell (p := ⟨k7 + 1, i, none⟩) (by simp; omega) _).setCell (p := ⟨k8 + 1, 0, none⟩) (by simp; omega) _
                · exact (HDR.out.2.2.1.trans (KeepsOthers.setCell _ _ _)).trans (KeepsOthers.setCell _ _ _)
                · exact (Rd.setAt (HDR.out.2.2.2 r) ⟨k7 + 1, i, none⟩ (by simp; omega) (by simp; omega) _).setAt ⟨k8 + 1, 0, none⟩ (by simp; omega) (by simp) _
              have HTN : Hid (takeC cs c (y0 : Int) = (k + 1) + takeC cs c ((y - c : Nat) : Int)) := by show _ = _; rw [HTKy.out, HT1.out]; omega
              have HYN : Hid (((y - c : Nat) : Int) = (y0 : Int) - ((k + 1 : Nat) : Int) * c) := by
                show _ = _
                rw [Int.natCast_add, Int.add_mul]
                have := HYK.out
                omega
              have HM := Lib.hid HW.out.1.2.2.1.1
              have HE9 := Lib.hid e9
              clear s1 s2 HEXIT HNOT2 HIFF2 t1 t2 HDR HTMh HTEh
              gi_wp2
              go_roundw
              case rel => exact ⟨y - c, k + 1, by omega, HYN.out, HT2.out, HTN.out, by omega, HW.out⟩
              case measure =>
                show (intOf ((((wr.drew.setCell ⟨k7 + 1, i, none⟩ (.int .i64 ((q0 : Int) + (k : Int) + 1))).setCell ⟨k8 + 1, 0, none⟩ (.int .i64 ((y : Int) - (c : Int)))).cell? ⟨k8 + 1, 0, none⟩).getD undef)).toNat < (intOf ((wr.cell? ⟨k8 + 1, 0, none⟩).getD undef)).toNat
                rw [HM.out, HE9.out]
                simp [intOf]
                omega
        · have x1 : ¬ (c : Int) ≤ (y : Int) := by omega
          have hd2 : decide ((c : Int) ≤ (y : Int)) = false := decide_eq_false x1
          have HT0 := Lib.hid (HTEh.out (y : Int) (fun h => x1 h.1))
          have HX := Lib.hid (HEXIT.out HT0.out)
          clear HEXIT HT0
          gi_wp2
          refine wpIn_region_inv (by kernel_rfl) (by kernel_rfl) (fun listed a w' => ∃ b0 b1 b2 b3 b4 b5 b6 b7 b8 b9 b10 b11 b12 b13 b14 b15 b16 : Bool, listed = #[b0, b1, b2, b3, b4, b5, b6, b7, b8, b9, b10, b11, b12, b13, b14, b15, b16] ∧ a = { tmps := #[.slice (some ⟨b, off, none⟩) cs.length cap, .int .i64 (n : Int), undef, undef, .int .i64 0, .slice none 0 0, .bool false, .pointer (some ⟨k7, 0, none⟩), .pointer (some ⟨k8, 0, none⟩), .pointer (some ⟨k8 + 1, 0, none⟩), .int .i64 (i : Int), .int .i64 (c : Int), .slice (some ⟨b, off, none⟩) cs.length cap, .int .i64 (n : Int), .bool true, .bool false, .slice (some ⟨b, off, none⟩) cs.length cap, .int .i64 (n : Int), sl gl (n + 1) cl, sl gl (n + 1) cl, .int .i64 (n : Int), .pointer (some ⟨gl, n, none⟩), .int .i64 (fuV cs (n : Int)), .bool false, .slice (some ⟨b, off, none⟩) cs.length cap, .int .i64 cs.length, .slice (some ⟨k7 + 1, 0, none⟩) cs.length cs.length, .int .i64 (n : Int), .slice (some ⟨b, off, none⟩) cs.length cap, .func (.func 69) #[] #[.pointer (some ⟨k8 + 1 + 1, 0, none⟩)], .int .i64 (i : Int), .int .i64 (c : Int), (bif b0 then .int .i64 (y : Int) else u32), (bif b1 then .int .i64 (c : Int) else u33), (bif b2 then .bool false else u34), (bif b3 then .bool false else u35), (bif b4 then undef else u36), (bif b5 then undef else u37), (bif b6 then undef else u38), (bif b7 then undef else u39), (bif b8 then undef else u40), (bif b9 then undef else u41), (bif b10 then undef else u42), (bif b11 then undef else u43), (bif b12 then undef else u44), (bif b13 then undef else u45), (bif b14 then undef else u46), (bif b15 then undef else u47), (bif b16 then .bool false else u48), u49, u50, u51, u52, u53, u54, u55, u56, u57, undef, undef, undef, undef, undef], defers := [] } ∧ w' = wr.drew) ?size ?first ?step ?last
          case size =>
            rintro listed a w' ⟨b0, b1, b2, b3, b4, b5, b6, b7, b8, b9, b10, b11, b12, b13, b14, b15, b16, rfl, _⟩
            rfl
          case first =>
            exact ⟨false, false, false, false, false, false, false, false, false, false, false, false, false, false, false, false, false, rfl, rfl, rfl⟩
          case step =>
            rintro listed a w' j ⟨b0, b1, b2, b3, b4, b5, b6, b7, b8, b9, b10, b11, b12, b13, b14, b15, b16, rfl, rfl, rfl⟩ hj
            obtain ⟨h1, o, ho, hdeps⟩ := mem_ready.1 hj
            clear hj
            rcases j with _ | _ | _ | _ | _ | _ | _ | _ | _ | _ | _ | _ | _ | _ | _ | _ | _ | j
            all_goals first | (simp at ho; done) | (simp only [List.getElem?_toArray, List.getElem?_cons_zero, List.getElem?_cons_succ, Option.some.injEq] at ho; subst ho)
            · have hk : b0 = false := by simpa using h1
              subst hk
              clear h1 hdeps
              refine wpOpIn_of rfl rfl (wpIn_val (fun _ h => by cases h) (by dsimp only [cond_true, cond_false]; go_simp <;> first | rfl | exact ⟨rfl, rfl⟩) ?_)
              exact ⟨true, b1, b2, b3, b4, b5, b6, b7, b8, b9, b10, b11, b12, b13, b14, b15, b16, rfl, rfl, rfl⟩
            · have hk : b1 = false := by simpa using h1
              subst hk
              clear h1 hdeps
              refine wpOpIn_of rfl rfl (wpIn_val (fun _ h => by cases h) (by dsimp only [cond_true, cond_false]; go_simp <;> first | rfl | exact ⟨rfl, rfl⟩) ?_)
              exact ⟨b0, true, b2, b3, b4, b5, b6, b7, b8, b9, b10, b11, b12, b13, b14, b15, b16, rfl, rfl, rfl⟩
            · have hk : b2 = false := by simpa using h1
              have d0 : b0 = true := by
                have := hdeps ⟨0, .data⟩ (by simp) rfl
                simpa using this
              have d1 : b1 = true := by
                have := hdeps ⟨1, .data⟩ (by simp) rfl
                simpa using this
              subst hk d0 d1
              clear h1 hdeps
              refine wpOpIn_of rfl rfl (wpIn_val (fun _ h => by cases h) (by dsimp only [cond_true, cond_false]; go_simp <;> first | rfl | exact ⟨rfl, rfl⟩) ?_)
              exact ⟨true, true, true, b3, b4, b5, b6, b7, b8, b9, b10, b11, b12, b13, b14, b15, b16, rfl, rfl, rfl⟩
            · have hk : b3 = false := by simpa using h1
              have d2 : b2 = true := by
                have := hdeps ⟨2, .data⟩ (by simp) rfl
                simpa using this
              subst hk d2
              clear h1 hdeps
              refine wpOpIn_of rfl rfl (wpIn_val (fun _ h => by cases h) (by dsimp only [cond_true, cond_false]; go_simp <;> first | rfl | exact ⟨rfl, rfl⟩) ?_)
              exact ⟨b0, b1, true, true, b4, b5, b6, b7, b8, b9, b10, b11, b12, b13, b14, b15, b16, rfl, rfl, rfl⟩
            · have hk : b4 = false := by simpa using h1
              have d3 : b3 = true := by
                have := hdeps ⟨3, .guard⟩ (by simp) rfl
                simpa using this
              subst hk d3
              clear h1 hdeps
              refine wpOpIn_unw (fun _ => trivial) rfl rfl ?_
              exact ⟨b0, b1, b2, true, true, b5, b6, b7, b8, b9, b10, b11, b12, b13, b14, b15, b16, rfl, rfl, rfl⟩
            · have hk : b5 = false := by simpa using h1
              have d3 : b3 = true := by
                have := hdeps ⟨3, .guard⟩ (by simp) rfl
                simpa using this
              subst hk d3
              clear h1 hdeps
              refine wpOpIn_unw (fun _ => trivial) rfl rfl ?_
              exact ⟨b0, b1, b2, true, b4, true, b6, b7, b8, b9, b10, b11, b12, b13, b14, b15, b16, rfl, rfl, rfl⟩
            · have hk : b6 = false := by simpa using h1
              have d3 : b3 = true := by
                have := hdeps ⟨3, .guard⟩ (by simp) rfl
                simpa using this
              subst hk d3
              clear h1 hdeps
              refine wpOpIn_unw (fun _ => trivial) rfl rfl ?_
              exact ⟨b0, b1, b2, true, b4, b5, true, b7, b8, b9, b10, b11, b12, b13, b14, b15, b16, rfl, rfl, rfl⟩
            · have hk : b7 = false := by simpa using h1
              have d5 : b5 = true := by
                have := hdeps ⟨5, .data⟩ (by simp) rfl
                simpa using this
              have d6 : b6 = true := by
                have := hdeps ⟨6, .data⟩ (by simp) rfl
                simpa using this
              have d3 : b3 = true := by
                have := hdeps ⟨3, .guard⟩ (by simp) rfl
                simpa using this
              subst hk d5 d6 d3
              clear h1 hdeps
              refine wpOpIn_unw (fun _ => trivial) rfl rfl ?_
              exact ⟨b0, b1, b2, true, b4, true, true, true, b8, b9, b10, b11, b12, b13, b14, b15, b16, rfl, rfl, rfl⟩
            · have hk : b8 = false := by simpa using h1
              have d4 : b4 = true := by
                have := hdeps ⟨4, .data⟩ (by simp) rfl
                simpa using this
              have d7 : b7 = true := by
                have := hdeps ⟨7, .data⟩ (by simp) rfl
                simpa using this
              have d3 : b3 = true := by
                have := hdeps ⟨3, .guard⟩ (by simp) rfl
                simpa using this
              subst hk d4 d7 d3
              clear h1 hdeps
              refine wpOpIn_unw (fun _ => trivial) rfl rfl ?_
              exact ⟨b0, b1, b2, true, true, b5, b6, true, true, b9, b10, b11, b12, b13, b14, b15, b16, rfl, rfl, rfl⟩
            · have hk : b9 = false := by simpa using h1
              have d8 : b8 = true := by
                have := hdeps ⟨8, .data⟩ (by simp) rfl
                simpa using this
              have d3 : b3 = true := by
                have := hdeps ⟨3, .guard⟩ (by simp) rfl
                simpa using this
              subst hk d8 d3
              clear h1 hdeps
              refine wpOpIn_unw (fun _ => trivial) rfl rfl ?_
              exact ⟨b0, b1, b2, true, b4, b5, b6, b7, true, true, b10, b11, b12, b13, b14, b15, b16, rfl, rfl, rfl⟩
            · have hk : b10 = false := by simpa using h1
              have d3 : b3 = true := by
                have := hdeps ⟨3, .guard⟩ (by simp) rfl
                simpa using this
              subst hk d3
              clear h1 hdeps
              refine wpOpIn_unw (fun _ => trivial) rfl rfl ?_
              exact ⟨b0, b1, b2, true, b4, b5, b6, b7, b8, b9, true, b11, b12, b13, b14, b15, b16, rfl, rfl, rfl⟩
            · have hk : b11 = false := by simpa using h1
              have d3 : b3 = true := by
                have := hdeps ⟨3, .guard⟩ (by simp) rfl
                simpa using this
              subst hk d3
              clear h1 hdeps
              refine wpOpIn_unw (fun _ => trivial) rfl rfl ?_
              exact ⟨b0, b1, b2, true, b4, b5, b6, b7, b8, b9, b10, true, b12, b13, b14, b15, b16, rfl, rfl, rfl⟩
            · have hk : b12 = false := by simpa using h1
              have d10 : b10 = true := by
                have := hdeps ⟨10, .data⟩ (by simp) rfl
                simpa using this
              have d11 : b11 = true := by
                have := hdeps ⟨11, .data⟩ (by simp) rfl
                simpa using this
              have d3 : b3 = true := by
                have := hdeps ⟨3, .guard⟩ (by simp) rfl
                simpa using this
              subst hk d10 d11 d3
              clear h1 hdeps
              refine wpOpIn_unw (fun _ => trivial) rfl rfl ?_
              exact ⟨b0, b1, b2, true, b4, b5, b6, b7, b8, b9, true, true, true, b13, b14, b15, b16, rfl, rfl, rfl⟩
            · have hk : b13 = false := by simpa using h1
              have d12 : b12 = true := by
                have := hdeps ⟨12, .data⟩ (by simp) rfl
                simpa using this
              have d3 : b3 = true := by
                have := hdeps ⟨3, .guard⟩ (by simp) rfl
                simpa using this
              subst hk d12 d3
              clear h1 hdeps
              refine wpOpIn_unw (fun _ => trivial) rfl rfl ?_
              exact ⟨b0, b1, b2, true, b4, b5, b6, b7, b8, b9, b10, b11, true, true, b14, b15, b16, rfl, rfl, rfl⟩
            · have hk : b14 = false := by simpa using h1
              have d13 : b13 = true := by
                have := hdeps ⟨13, .data⟩ (by simp) rfl
                simpa using this
              have d3 : b3 = true := by
                have := hdeps ⟨3, .guard⟩ (by simp) rfl
                simpa using this
              subst hk d13 d3
              clear h1 hdeps
              refine wpOpIn_unw (fun _ => trivial) rfl rfl ?_
              exact ⟨b0, b1, b2, true, b4, b5, b6, b7, b8, b9, b10, b11, b12, true, true, b15, b16, rfl, rfl, rfl⟩
            · have hk : b15 = false := by simpa using h1
              have d9 : b9 = true := by
                have := hdeps ⟨9, .data⟩ (by simp) rfl
                simpa using this
              have d14 : b14 = true := by
                have := hdeps ⟨14, .data⟩ (by simp) rfl
                simpa using this
              have d3 : b3 = true := by
                have := hdeps ⟨3, .guard⟩ (by simp) rfl
                simpa using this
              subst hk d9 d14 d3
              clear h1 hdeps
              refine wpOpIn_unw (fun _ => trivial) rfl rfl ?_
              exact ⟨b0, b1, b2, true, b4, b5, b6, b7, b8, true, b10, b11, b12, b13, true, true, b16, rfl, rfl, rfl⟩
            · have hk : b16 = false := by simpa using h1
              have d3 : b3 = true := by
                have := hdeps ⟨3, .data⟩ (by simp) rfl
                simpa using this
              have d15 : b15 = true := by
                have := hdeps ⟨15, .data⟩ (by simp) rfl
                simpa using this
              subst hk d3 d15
              clear h1 hdeps
              refine wpOpIn_of rfl rfl (wpIn_val (fun _ h => by cases h) (by dsimp only [cond_true, cond_false]; go_simp <;> first | rfl | exact ⟨rfl, rfl⟩) ?_)
              exact ⟨b0, b1, b2, true, b4, b5, b6, b7, b8, b9, b10, b11, b12, b13, b14, true, true, rfl, rfl, rfl⟩
          case last =>
            rintro listed a w' ⟨b0, b1, b2, b3, b4, b5, b6, b7, b8, b9, b10, b11, b12, b13, b14, b15, b16, rfl, rfl, rfl⟩ hall
            have ha : ∀ j, j < 17 → #[b0, b1, b2, b3, b4, b5, b6, b7, b8, b9, b10, b11, b12, b13, b14, b15, b16].getD j true = true := hall
            have a0 : b0 = true := ha 0 (by omega)
            have a1 : b1 = true := ha 1 (by omega)
            have a2 : b2 = true := ha 2 (by omega)
            have a3 : b3 = true := ha 3 (by omega)
            have a4 : b4 = true := ha 4 (by omega)
            have a5 : b5 = true := ha 5 (by omega)
            have a6 : b6 = true := ha 6 (by omega)
            have a7 : b7 = true := ha 7 (by omega)
            have a8 : b8 = true := ha 8 (by omega)
            have a9 : b9 = true := ha 9 (by omega)
            have a10 : b10 = true := ha 10 (by omega)
            have a11 : b11 = true := ha 11 (by omega)
            have a12 : b12 = true := ha 12 (by omega)
            have a13 : b13 = true := ha 13 (by omega)
            have a14 : b14 = true := ha 14 (by omega)
            have a15 : b15 = true := ha 15 (by omega)
            have a16 : b16 = true := ha 16 (by omega)
            subst a0 a1 a2 a3 a4 a5 a6 a7 a8 a9 a10 a11 a12 a13 a14 a15 a16
            clear ha hall
            dsimp only [cond_true]
            gi_wp2
            exact HX.out
    case done =>
      rintro D ys W hD hys ⟨⟨b0, b1, b2, bo, bl⟩, hB⟩ hK
      have hlg : (fewL cs (n : Int)).length = cs.length := by rw [← HEND.out ys hys]; exact (HFF.out ys).1
      rw [HEND.out ys hys] at bo
      have c7 := b0.1
      have c8 := b1.1
      have cn := bl.cell (tabL_len _ _) n (by omega)
      rw [tabL_at _ (Nat.le_refl _)] at cn
      have HK := Lib.hid hK
      have HD := Lib.hid hD
      clear b0 b1 b2 bl hys hK hD
      gi_wp2
      gi_region
      all_goals
        gi_wp2
        have hK' : W.drew.heap[D]? = some (.deferred (some [])) := HK.out
        refine ⟨by simp, .inl ⟨_, _, rfl, run_takeDeferred hK', ?_⟩⟩
        refine ⟨.tuple #[.int .i64 (fuV cs (n : Int)), sl (k7 + 1) cs.length cs.length, .bool true], by simp [results, Try.f21, go_sem], ⟨_, ret_few E1.out.symm E.out.symm, ?_, ?_⟩⟩
        · exact Go.Proofs.Ytbkndncdhombeaa.Own.own (bo.below ((Below.refl W.heap.size W).drew)) l1 hlg (grownBy_putObj' W.drew D _) (fun r e => by cases e; exact ⟨_, hK', rfl⟩)
        · exact hB.drew.trans (belowK_b (w := w) (Nat.le_refl _) _ D _ _ (Nat.le_trans F5.out.size HD.out) hK' rfl rfl)
    case stop =>
      rintro D c pre W hD _ h
      exact h.elim
  · have E : Hid (cFew cs (n : Int) = false) := cFew_no3 (by omega)
    have hub : (fuV cs (n : Int) == 1921) = true := by
      unfold fuV
      rw [if_pos (by omega)]
      rfl
    have HUB := Lib.hid hub
    clear h3 hp hc hv h0 h1 b2 hub
    go_enter Try.func21, Try.ntmps21
    go_wp2_with (first | (go_at_call 47; refine (HCP.out _ H0.out).mono ?_; rintro e w1 ⟨rfl, hd⟩) | fail)
    have hb1 : Below w.heap.size w w1 := hd.below
    refine (HFT.out w1 (HV.out.below hb1)).mono ?_
    rintro e w2 ⟨gl, cl, rfl, hg, hown, hbl⟩
    have hs1 := hb1.size
    have hb2 : Below w.heap.size w w2 := hb1.trans (hbl.mono hs1)
    have hs2 := hb2.size
    have p7 := (Bx.new w2 (sl gl (n + 1) cl) 23).1
    have hl3 := hown.below ((Below.refl w2.heap.size w2).alloc (Nat.le_refl _) (.cells #[sl gl (n + 1) cl] 23))
    have hb3 := hb2.alloc hs2 (.cells #[sl gl (n + 1) cl] 23)
    have cn := hl3.cell (tabL_len _ _) n (by omega)
    rw [tabL_at _ (Nat.le_refl _)] at cn
    have hub := HUB.out
    clear hown hbl hb2 HFT HCP hd hb1 hl3 HUB
    generalize fuV cs (n : Int) = r at *
    go_wp2
    go_ret3
    exact ⟨_, ret_few (HNO.out E.out).1.symm E.out.symm, by rw [(HNO.out E.out).2]; exact own_nil _ _, hb3⟩

end Go.Proofs.Ytbkndncdhombeaa
