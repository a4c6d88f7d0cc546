/- WorthOf: the program's contract. -/
import Derived.Test.YtfgafbjofkicdaaRegI
import Derived.RegionIn
import Derived.Laws.EntriesVeiled
namespace Go.Proofs.Ytfgafbjofkicdaa
open Go.RowKit Go.Shelf
attribute [local go_sem] Oper.semAt_some

theorem vStream_as (xs : List Int) (p b : Int) : vStream xs p b = (allR xs (-1000) 1000 && inR xs.length 1 8 && canB p b) := by
  unfold vStream allR canB
  simp only [Bool.and_assoc]

theorem worth_no {xs : List Int} {p b : Int} (h : vStream xs p b = false) : worthU xs p b = 0 ∧ worthL xs p b = 0 := by
  rw [worthU, worthL, if_neg (by rw [h]; simp), if_neg (by rw [h]; simp)]
  exact ⟨rfl, rfl⟩

theorem Backward_impl (a : Option Addr) (n c : Nat) (w : World) :
    Calls Try.prog 69 #[.slice a n c] w fun e w' => e = .returned (.func (.func 74) #[] #[.pointer (some ⟨w.heap.size, 0, none⟩)]) ∧ w' = w.alloc (.cells #[.slice a n c] 33) := by
  go_enter Try.func69, Try.ntmps69
  go_wp2
  go_ret
  exact ⟨rfl, rfl⟩

/-- What the numbers behind are worth. -/
def backW (xs : List Int) (p b : Int) (pre : List (Fin xs.length)) : Int := worthI (pre.map (nth xs)).reverse p b

theorem backW_succ (xs : List Int) (p b : Int) (pre : List (Fin xs.length)) (x : Fin xs.length) : backW xs p b (pre ++ [x]) = b * (nth xs x * (b + p) ^ pre.length + backW xs p b pre) := by
  unfold backW
  rw [List.map_append, List.reverse_append]
  show worthI (nth xs x :: (pre.map (nth xs)).reverse) p b = _
  rw [worth_cons, List.length_reverse, List.length_map]

theorem nth_mem (xs : List Int) (i : Fin xs.length) : nth xs i ∈ xs := by
  unfold nth
  rw [List.getD_eq_getElem?_getD, List.getElem?_eq_getElem i.isLt]
  exact List.getElem_mem i.isLt

theorem backW_bound {xs : List Int} {p b : Int} (hx : ∀ x ∈ xs, -1000 ≤ x ∧ x ≤ 1000) (hp : 0 ≤ p ∧ p ≤ 10) (hb : 1 ≤ b ∧ b ≤ 10) (pre : List (Fin xs.length)) (hl : pre.length ≤ 8) : -204800000000000 ≤ backW xs p b pre ∧ backW xs p b pre ≤ 204800000000000 := by
  have h1 : ∀ y ∈ (pre.map (nth xs)).reverse, -1000 ≤ y ∧ y ≤ 1000 := by
    intro y hy
    rw [List.mem_reverse] at hy
    obtain ⟨i, _, rfl⟩ := List.mem_map.1 hy
    exact hx _ (nth_mem xs i)
  have h2 : (pre.map (nth xs)).reverse.length = pre.length := by simp
  have := wSum_bound h1 (show 0 ≤ b ∧ b ≤ 20 by omega) (show 0 ≤ b + p ∧ b + p ≤ 20 by omega) (by omega) _ (Nat.le_refl _)
  unfold backW worthI
  omega

theorem mulD {x D M : Int} (hx : -1000 ≤ x ∧ x ≤ 1000) (hD : 0 ≤ D ∧ D ≤ M) : -(1000 * M) ≤ x * D ∧ x * D ≤ 1000 * M := by
  have h1 := Int.mul_le_mul_of_nonneg_right hx.2 hD.1
  have h2 := Int.mul_le_mul_of_nonneg_right hx.1 hD.1
  omega

set_option maxRecDepth 100000 in
set_option maxHeartbeats 4000000 in
theorem WorthOf_impl (v : Value) (xs : List Int) (p b : Int) (w : World) (hv : IsInts w v xs) (hl : xs.length ≤ 9223372036854775807) :
    Calls Try.prog 40 #[v, .int .i64 p, .int .i64 b] w fun e w' => e = .returned (.tuple #[.int .i64 (worthU xs p b), .int .i64 (worthL xs p b)]) ∧ Below w.heap.size w w' := by
  have hB3 : Below w.heap.size w ((w.alloc (.cells #[.int .i64 p] 3)).alloc (.cells #[.int .i64 b] 3)) := ((Below.refl _ w).alloc (Nat.le_refl _) _).alloc (by simp) _
  have HCC := Lib.hid inRangeI_at
  have HA := Lib.hid (allInRange_impl v xs (-1000) 1000 _ (hv.below hB3) hl)
  have HB := Lib.hid (canBear_impl p b ((w.alloc (.cells #[.int .i64 p] 3)).alloc (.cells #[.int .i64 b] 3)))
  obtain ⟨av, cv, rfl, _⟩ := id hv
  cases h1 : inR (xs.length : Nat) 1 8
  · obtain ⟨e1, e2⟩ := worth_no (xs := xs) (p := p) (b := b) (by rw [vStream_as, h1]; simp)
    rw [e1, e2]
    go_enter Try.func40, Try.ntmps40
    go_wp2_with (go_at_call 53; refine (HCC.out _ _ _ _ _ h1).mono ?_; rintro e w' ⟨rfl, rfl⟩)
    go_ret2
    exact ⟨rfl, hB3⟩
  cases h2 : allR xs (-1000) 1000
  · obtain ⟨e1, e2⟩ := worth_no (xs := xs) (p := p) (b := b) (by rw [vStream_as, h2]; simp)
    rw [e1, e2]
    rw [h2] at HA
    go_enter Try.func40, Try.ntmps40
    go_wp2_with (first | (go_at_call 53; refine (HCC.out _ _ _ _ _ h1).mono ?_; rintro e w' ⟨rfl, rfl⟩) | (go_at_call 68; refine HA.out.mono ?_; rintro e w' ⟨rfl, rfl⟩))
    go_ret2
    exact ⟨rfl, hB3⟩
  cases h3 : canB p b
  · obtain ⟨e1, e2⟩ := worth_no (xs := xs) (p := p) (b := b) (by rw [vStream_as, h3]; simp)
    rw [e1, e2]
    rw [h2] at HA
    rw [h3] at HB
    have c0 := (Bx.new w (.int .i64 p) 3).alloc (.cells #[.int .i64 b] 3)
    have c1 := Bx.new (w.alloc (.cells #[.int .i64 p] 3)) (.int .i64 b) 3
    go_enter Try.func40, Try.ntmps40
    go_wp2_with (first | (go_at_call 53; refine (HCC.out _ _ _ _ _ h1).mono ?_; rintro e w' ⟨rfl, rfl⟩) | (go_at_call 68; refine HA.out.mono ?_; rintro e w' ⟨rfl, rfl⟩) | (go_at_call 57; refine HB.out.mono ?_; rintro e w' ⟨rfl, rfl⟩))
    go_ret2
    exact ⟨rfl, hB3⟩
  · rw [h2] at HA
    rw [h3] at HB
    have hvs : vStream xs p b = true := by rw [vStream_as, h1, h2, h3]; rfl
    obtain ⟨q1, q2, q3, q4⟩ := vStream_iff.1 hvs
    have E1 : Hid (worthU xs p b = worthI xs p b) := by show _ = _; rw [worthU, if_pos hvs]
    have E2 : Hid (worthL xs p b = (b + p) ^ xs.length) := by show _ = _; rw [worthL, if_pos hvs]
    have c0 := (Bx.new w (.int .i64 p) 3).alloc (.cells #[.int .i64 b] 3)
    have c1 := Bx.new (w.alloc (.cells #[.int .i64 p] 3)) (.int .i64 b) 3
    simp only [World.size_alloc] at c1
    have hsz : ((w.alloc (.cells #[.int .i64 p] 3)).alloc (.cells #[.int .i64 b] 3)).heap.size = w.heap.size + 1 + 1 := by simp
    have HV := Lib.hid hv
    have HC0 := Lib.hid c0
    have HC1 := Lib.hid c1
    have k0 := c0.1
    have k1 := c1.1
    clear c0 c1
    have HBK := Lib.hid Backward_impl
    have HQ := Lib.hid q1
    clear hvs h3 hv q1
    refine (callsIn_wide (n := 3)).1 ?_
    refine callsIn_of_wp_marks Try.func40 rfl trivial ?_ rfl
    simp only [Try.ntmps40, List.size_toArray, List.length_cons, List.length_nil, Nat.reduceAdd, Nat.reduceSub, Array.replicate_succ, Array.replicate_zero, List.push_toArray, List.append_toArray, List.nil_append, List.cons_append]
    gi_wp2_with fail
    refine ⟨trivial, (callsIn_wide.2 (HCC.out _ _ _ _ _ h1)).mono ?_⟩
    rintro e w' ⟨rfl, rfl⟩
    gi_wp2_with fail
    refine ⟨trivial, (callsIn_wide.2 HA.out).mono ?_⟩
    rintro e w' ⟨rfl, rfl⟩
    gi_wp2_with fail
    refine ⟨trivial, (callsIn_wide.2 HB.out).mono ?_⟩
    rintro e w' ⟨rfl, rfl⟩
    gi_wp2_with fail
    refine ⟨trivial, (callsIn_wide.2 (HBK.out _ _ _ _)).mono ?_⟩
    rintro e w' ⟨rfl, rfl⟩
    gi_wp2_with fail
    clear k0 k1 HA HB HCC HBK hsz
    have b0 := ((HC0.out.alloc (.cells #[.int .i64 0] 3)).alloc (.cells #[.int .i64 1] 3)).alloc (.cells #[.slice av xs.length cv] 33)
    have b1 := ((HC1.out.alloc (.cells #[.int .i64 0] 3)).alloc (.cells #[.int .i64 1] 3)).alloc (.cells #[.slice av xs.length cv] 33)
    have b2 := ((Bx.new ((w.alloc (.cells #[.int .i64 p] 3)).alloc (.cells #[.int .i64 b] 3)) (.int .i64 0) 3).alloc (.cells #[.int .i64 1] 3)).alloc (.cells #[.slice av xs.length cv] 33)
    have b3 := (Bx.new (((w.alloc (.cells #[.int .i64 p] 3)).alloc (.cells #[.int .i64 b] 3)).alloc (.cells #[.int .i64 0] 3)) (.int .i64 1) 3).alloc (.cells #[.slice av xs.length cv] 33)
    have b4 := Bx.new ((((w.alloc (.cells #[.int .i64 p] 3)).alloc (.cells #[.int .i64 b] 3)).alloc (.cells #[.int .i64 0] 3)).alloc (.cells #[.int .i64 1] 3)) (.slice av xs.length cv) 33
    simp only [World.size_alloc] at b2 b3 b4
    have hB5 := ((hB3.alloc (by simp; omega) (.cells #[.int .i64 0] 3)).alloc (by simp; omega) (.cells #[.int .i64 1] 3)).alloc (by simp; omega) (.cells #[.slice av xs.length cv] 33)
    have hz5 : (((((w.alloc (.cells #[.int .i64 p] 3)).alloc (.cells #[.int .i64 b] 3)).alloc (.cells #[.int .i64 0] 3)).alloc (.cells #[.int .i64 1] 3)).alloc (.cells #[.slice av xs.length cv] 33)).heap.size = w.heap.size + 1 + 1 + 1 + 1 + 1 := by simp
    generalize ((((w.alloc (.cells #[.int .i64 p] 3)).alloc (.cells #[.int .i64 b] 3)).alloc (.cells #[.int .i64 0] 3)).alloc (.cells #[.int .i64 1] 3)).alloc (.cells #[.slice av xs.length cv] 33) = W5 at *
    have F0 := Lib.hid b0
    have F1 := Lib.hid b1
    have F2 := Lib.hid b2
    have F3 := Lib.hid b3
    have HRd := Lib.hid (Rd.of (n0 := w.heap.size) b4.1 HV.out rfl hB5)
    have F5 := Lib.hid hB5
    have F6 := Lib.hid hz5
    clear b0 b1 b2 b3 b4 hB5 hz5 hB3 HC0 HC1
    refine wpIn_rangeFunc_ownF rfl (by omega) (gf := 74) (lb := #[.pointer (some ⟨w.heap.size + 1 + 1 + 1 + 1, 0, none⟩)]) rfl trivial (enters_of Try.func74 (by kernel_rfl) rfl)
      (backward_stops Fence.wide _ trivial rfl (by omega) w.heap.size (w.heap.size + 1 + 1 + 1 + 1) _ xs W5 HRd.out (by omega)) (fun h k r => k (h r)) (fun W l o o' _ h hc _ r => r.own (grownBy_putObj' W l o') (fun r e => by cases e; exact ⟨_, h, hc⟩)) (Below.refl _ _) (fun _ => rfl)
      (fun (pre : List (Fin xs.length)) W => (Bx W w.heap.size (.int .i64 p) ∧ Bx W (w.heap.size + 1) (.int .i64 b) ∧ Bx W (w.heap.size + 1 + 1) (.int .i64 (backW xs p b pre)) ∧ Bx W (w.heap.size + 1 + 1 + 1) (.int .i64 ((b + p) ^ pre.length))) ∧ Below w.heap.size w W)
      (fun _ (_ : List (Fin xs.length)) _ => False)
      (OwnFrom.and (Go.Own.from (fun s A B row hs hg hr => ⟨hs.1.own hg hr, hs.2.1.own hg hr, hs.2.2.1.own hg hr, hs.2.2.2.own hg hr⟩) _) (ownFrom_below (Nat.le_refl _) F5.out.size))
      (fun c => Go.Own.from (fun s A B row hs hg hr => hs) _)
      ⟨⟨F0.out, F1.out, F2.out, by simpa using F3.out⟩, F5.out⟩
      (fun x => { tmps := #[.slice av xs.length cv, .int .i64 p, .int .i64 b, undef, .pointer (some ⟨w.heap.size, 0, none⟩), .pointer (some ⟨w.heap.size + 1, 0, none⟩), .int .i64 0, .int .i64 0, .pointer (some ⟨w.heap.size + 1 + 1, 0, none⟩), .pointer (some ⟨w.heap.size + 1 + 1 + 1, 0, none⟩), undef, .int .i64 (nth xs x), .slice av xs.length cv, .int .i64 xs.length, .bool true, .bool false, .bool false, .slice av xs.length cv, .bool true, .bool false, .bool false, .bool false, .int .i64 p, .int .i64 b, .bool true, .bool false, .bool false, .slice av xs.length cv, .func (.func 74) #[] #[.pointer (some ⟨w.heap.size + 1 + 1 + 1 + 1, 0, none⟩)], .int .i64 (x.val : Nat), .int .i64 (nth xs x), undef, undef, undef, undef, undef, undef, undef, undef, undef, undef, undef, undef, undef, undef], defers := [] }) ?assign ?body ?done ?stop
    case assign =>
      intro l x W K hK
      gi_wp2
      exact hK
    case body =>
      rintro l pre x W ⟨⟨b0, b1, b2, b3⟩, hB⟩ hlen
      have hx := HQ.out _ (nth_mem xs x)
      have hU := backW_bound HQ.out q3 q4 pre (by omega)
      have hU2 := backW_bound HQ.out q3 q4 (pre ++ [x]) (by simp; omega)
      have hD := pow_small (show 0 ≤ b + p ∧ b + p ≤ 20 by omega) (show pre.length ≤ 12 by omega)
      have hD2 := pow_small (show 0 ≤ b + p ∧ b + p ≤ 20 by omega) (show pre.length + 1 ≤ 12 by omega)
      have hXD := mulD hx hD
      have eU := backW_succ xs p b pre x
      have eD : (b + p) ^ (pre.length + 1) = (b + p) ^ pre.length * (b + p) := Int.pow_succ _ _
      rw [Int.mul_comm b] at eU
      have eL : (pre ++ [x]).length = pre.length + 1 := by simp
      rw [eU] at hU2
      rw [eD] at hD2
      have HE : Hid (backW xs p b (pre ++ [x]) = (nth xs x * (b + p) ^ pre.length + backW xs p b pre) * b ∧ (b + p) ^ (pre ++ [x]).length = (b + p) ^ pre.length * (b + p)) := ⟨eU, by rw [eL, eD]⟩
      have c0 := b0.1
      have c1 := b1.1
      have c2 := b2.1
      have c3 := b3.1
      have f2 := b2.2
      have f3 := b3.2
      have G0 := Lib.hid b0
      have G1 := Lib.hid b1
      have G2 := Lib.hid b2
      have G3 := Lib.hid b3
      clear b0 b1 b2 b3 eU eD eL hx hlen
      generalize backW xs p b pre = U at *
      generalize (b + p) ^ pre.length = D at *
      generalize hX : nth xs x = X at *
      have u1 : IntKind.i64.wrap (X * D) = X * D := IntWalk.i64_in _ (by omega)
      have u2 : IntKind.i64.wrap (X * D + U) = X * D + U := IntWalk.i64_in _ (by omega)
      have u3 : IntKind.i64.wrap ((X * D + U) * b) = (X * D + U) * b := IntWalk.i64_in _ (by omega)
      have u4 : IntKind.i64.wrap (b + p) = b + p := IntWalk.i64_in _ (by omega)
      have u5 : IntKind.i64.wrap (D * (b + p)) = D * (b + p) := IntWalk.i64_in _ (by omega)
      gi_wp2
      have x0 := Bx.other (W := W.drew) (c := w.heap.size + 1 + 1) G0.out (by omega) (.int .i64 ((X * D + U) * b))
      have x1 := Bx.other (W := W.drew) (c := w.heap.size + 1 + 1) G1.out (by omega) (.int .i64 ((X * D + U) * b))
      have x3 := Bx.other (W := W.drew) (c := w.heap.size + 1 + 1) G3.out (by omega) (.int .i64 ((X * D + U) * b))
      have y0 := x0.1
      have y1 := x1.1
      have y3 := x3.1
      have z3 := x3.2
      clear x0 x1 x3
      refine wpIn_region_inv (by kernel_rfl) (by kernel_rfl) (fun listed a w' => ∃ b0 b1 b2 b3 b4 b5 b6 b7 b8 b9 b10 b11 b12 b13 : Bool, listed = #[b0, b1, b2, b3, b4, b5, b6, b7, b8, b9, b10, b11, b12, b13] ∧ (b12 = true → b0 = true ∧ b1 = true ∧ b2 = true ∧ b3 = true ∧ b4 = true ∧ b5 = true ∧ b6 = true) ∧ (b13 = true → b0 = true ∧ b1 = true ∧ b2 = true ∧ b3 = true ∧ b4 = true ∧ b5 = true ∧ b6 = true ∧ b7 = true ∧ b8 = true ∧ b9 = true ∧ b10 = true ∧ b11 = true ∧ b12 = true) ∧ a = { tmps := #[.slice av xs.length cv, .int .i64 p, .int .i64 b, undef, .pointer (some ⟨w.heap.size, 0, none⟩), .pointer (some ⟨w.heap.size + 1, 0, none⟩), .int .i64 0, .int .i64 0, .pointer (some ⟨w.heap.size + 1 + 1, 0, none⟩), .pointer (some ⟨w.heap.size + 1 + 1 + 1, 0, none⟩), undef, .int .i64 X, .slice av xs.length cv, .int .i64 xs.length, .bool true, .bool false, .bool false, .slice av xs.length cv, .bool true, .bool false, .bool false, .bool false, .int .i64 p, .int .i64 b, .bool true, .bool false, .bool false, .slice av xs.length cv, .func (.func 74) #[] #[.pointer (some ⟨w.heap.size + 1 + 1 + 1 + 1, 0, none⟩)], .int .i64 (x.val : Nat), .int .i64 X, (bif b0 then .int .i64 X else undef), (bif b1 then .int .i64 D else undef), (bif b2 then .int .i64 (X * D) else undef), (bif b3 then .int .i64 U else undef), (bif b4 then .int .i64 (X * D + U) else undef), (bif b5 then .int .i64 b else undef), (bif b6 then .int .i64 ((X * D + U) * b) else undef), (bif b7 then .int .i64 D else undef), (bif b8 then .int .i64 b else undef), (bif b9 then .int .i64 p else undef), (bif b10 then .int .i64 (b + p) else undef), (bif b11 then .int .i64 (D * (b + p)) else undef), undef, undef], defers := [] } ∧ w' = (bif b13 then ((W.drew.setCell ⟨w.heap.size + 1 + 1, 0, none⟩ (.int .i64 ((X * D + U) * b))).setCell ⟨w.heap.size + 1 + 1 + 1, 0, none⟩ (.int .i64 (D * (b + p)))) else bif b12 then (W.drew.setCell ⟨w.heap.size + 1 + 1, 0, none⟩ (.int .i64 ((X * D + U) * b))) else W.drew)) ?size ?first ?step ?last
      case size =>
        rintro listed a w' ⟨b0, b1, b2, b3, b4, b5, b6, b7, b8, b9, b10, b11, b12, b13, rfl, _⟩
        rfl
      case first =>
        exact ⟨false, false, false, false, false, false, false, false, false, false, false, false, false, false, rfl, by simp, by simp, rfl, rfl⟩
      case step =>
        rintro listed a w' i ⟨b0, b1, b2, b3, b4, b5, b6, b7, b8, b9, b10, b11, b12, b13, rfl, hc12, hc13, rfl, rfl⟩ hi
        obtain ⟨h1, o, ho, hdeps⟩ := mem_ready.1 hi
        clear hi
        rcases i with _ | _ | _ | _ | _ | _ | _ | _ | _ | _ | _ | _ | _ | _ | i
        all_goals first | (simp at ho; done) | (simp only [List.getElem?_toArray, List.getElem?_cons_zero, List.getElem?_cons_succ, Option.some.injEq] at ho; subst ho)
        · have hk : b0 = false := by simpa using h1
          have k13 : b13 = false := by
            cases b13
            · rfl
            · have := hc13 rfl; simp [hk] at this
          have k12 : b12 = false := by
            cases b12
            · rfl
            · have := hc12 rfl; simp [hk] at this
          subst hk k13 k12
          clear h1 hdeps
          refine wpOpIn_of rfl rfl (wpIn_val (fun _ h => by cases h) (by dsimp only [cond_true, cond_false]; go_simp <;> first | rfl | exact ⟨rfl, rfl⟩) ?_)
          exact ⟨true, b1, b2, b3, b4, b5, b6, b7, b8, b9, b10, b11, false, false, rfl, by simp, by simp, rfl, rfl⟩
        · have hk : b1 = false := by simpa using h1
          have k13 : b13 = false := by
            cases b13
            · rfl
            · have := hc13 rfl; simp [hk] at this
          have k12 : b12 = false := by
            cases b12
            · rfl
            · have := hc12 rfl; simp [hk] at this
          subst hk k13 k12
          clear h1 hdeps
          refine wpOpIn_of rfl rfl (wpIn_val (fun _ h => by cases h) (by dsimp only [cond_true, cond_false]; go_simp <;> first | rfl | exact ⟨rfl, rfl⟩) ?_)
          exact ⟨b0, true, b2, b3, b4, b5, b6, b7, b8, b9, b10, b11, false, false, rfl, by simp, by simp, rfl, rfl⟩
        · have hk : b2 = false := by simpa using h1
          have k13 : b13 = false := by
            cases b13
            · rfl
            · have := hc13 rfl; simp [hk] at this
          have k12 : b12 = false := by
            cases b12
            · rfl
            · have := hc12 rfl; simp [hk] at this
          have d0 : b0 = true := by
            have := hdeps ⟨0, .data⟩ (by simp) rfl
            simpa using this
          have d1 : b1 = true := by
            have := hdeps ⟨1, .data⟩ (by simp) rfl
            simpa using this
          subst hk k13 k12 d0 d1
          clear h1 hdeps
          refine wpOpIn_of rfl rfl (wpIn_val (fun _ h => by cases h) (by dsimp only [cond_true, cond_false]; go_simp <;> first | rfl | exact ⟨rfl, rfl⟩) ?_)
          exact ⟨true, true, true, b3, b4, b5, b6, b7, b8, b9, b10, b11, false, false, rfl, by simp, by simp, rfl, rfl⟩
        · have hk : b3 = false := by simpa using h1
          have k13 : b13 = false := by
            cases b13
            · rfl
            · have := hc13 rfl; simp [hk] at this
          have k12 : b12 = false := by
            cases b12
            · rfl
            · have := hc12 rfl; simp [hk] at this
          subst hk k13 k12
          clear h1 hdeps
          refine wpOpIn_of rfl rfl (wpIn_val (fun _ h => by cases h) (by dsimp only [cond_true, cond_false]; go_simp <;> first | rfl | exact ⟨rfl, rfl⟩) ?_)
          exact ⟨b0, b1, b2, true, b4, b5, b6, b7, b8, b9, b10, b11, false, false, rfl, by simp, by simp, rfl, rfl⟩
        · have hk : b4 = false := by simpa using h1
          have k13 : b13 = false := by
            cases b13
            · rfl
            · have := hc13 rfl; simp [hk] at this
          have k12 : b12 = false := by
            cases b12
            · rfl
            · have := hc12 rfl; simp [hk] at this
          have d2 : b2 = true := by
            have := hdeps ⟨2, .data⟩ (by simp) rfl
            simpa using this
          have d3 : b3 = true := by
            have := hdeps ⟨3, .data⟩ (by simp) rfl
            simpa using this
          subst hk k13 k12 d2 d3
          clear h1 hdeps
          refine wpOpIn_of rfl rfl (wpIn_val (fun _ h => by cases h) (by dsimp only [cond_true, cond_false]; go_simp <;> first | rfl | exact ⟨rfl, rfl⟩) ?_)
          exact ⟨b0, b1, true, true, true, b5, b6, b7, b8, b9, b10, b11, false, false, rfl, by simp, by simp, rfl, rfl⟩
        · have hk : b5 = false := by simpa using h1
          have k13 : b13 = false := by
            cases b13
            · rfl
            · have := hc13 rfl; simp [hk] at this
          have k12 : b12 = false := by
            cases b12
            · rfl
            · have := hc12 rfl; simp [hk] at this
          subst hk k13 k12
          clear h1 hdeps
          refine wpOpIn_of rfl rfl (wpIn_val (fun _ h => by cases h) (by dsimp only [cond_true, cond_false]; go_simp <;> first | rfl | exact ⟨rfl, rfl⟩) ?_)
          exact ⟨b0, b1, b2, b3, b4, true, b6, b7, b8, b9, b10, b11, false, false, rfl, by simp, by simp, rfl, rfl⟩
        · have hk : b6 = false := by simpa using h1
          have k13 : b13 = false := by
            cases b13
            · rfl
            · have := hc13 rfl; simp [hk] at this
          have k12 : b12 = false := by
            cases b12
            · rfl
            · have := hc12 rfl; simp [hk] at this
          have d4 : b4 = true := by
            have := hdeps ⟨4, .data⟩ (by simp) rfl
            simpa using this
          have d5 : b5 = true := by
            have := hdeps ⟨5, .data⟩ (by simp) rfl
            simpa using this
          subst hk k13 k12 d4 d5
          clear h1 hdeps
          refine wpOpIn_of rfl rfl (wpIn_val (fun _ h => by cases h) (by dsimp only [cond_true, cond_false]; go_simp <;> first | rfl | exact ⟨rfl, rfl⟩) ?_)
          exact ⟨b0, b1, b2, b3, true, true, true, b7, b8, b9, b10, b11, false, false, rfl, by simp, by simp, rfl, rfl⟩
        · have hk : b7 = false := by simpa using h1
          have k13 : b13 = false := by
            cases b13
            · rfl
            · have := hc13 rfl; simp [hk] at this
          subst hk k13
          clear h1 hdeps
          cases b12
          · refine wpOpIn_of rfl rfl (wpIn_val (fun _ h => by cases h) (by dsimp only [cond_true, cond_false]; go_simp <;> first | rfl | exact ⟨rfl, rfl⟩) ?_)
            exact ⟨b0, b1, b2, b3, b4, b5, b6, true, b8, b9, b10, b11, false, false, rfl, hc12, by simp, rfl, rfl⟩
          · refine wpOpIn_of rfl rfl (wpIn_val (fun _ h => by cases h) (by dsimp only [cond_true, cond_false]; go_simp <;> first | rfl | exact ⟨rfl, rfl⟩) ?_)
            exact ⟨b0, b1, b2, b3, b4, b5, b6, true, b8, b9, b10, b11, true, false, rfl, hc12, by simp, rfl, rfl⟩
        · have hk : b8 = false := by simpa using h1
          have k13 : b13 = false := by
            cases b13
            · rfl
            · have := hc13 rfl; simp [hk] at this
          subst hk k13
          clear h1 hdeps
          cases b12
          · refine wpOpIn_of rfl rfl (wpIn_val (fun _ h => by cases h) (by dsimp only [cond_true, cond_false]; go_simp <;> first | rfl | exact ⟨rfl, rfl⟩) ?_)
            exact ⟨b0, b1, b2, b3, b4, b5, b6, b7, true, b9, b10, b11, false, false, rfl, hc12, by simp, rfl, rfl⟩
          · refine wpOpIn_of rfl rfl (wpIn_val (fun _ h => by cases h) (by dsimp only [cond_true, cond_false]; go_simp <;> first | rfl | exact ⟨rfl, rfl⟩) ?_)
            exact ⟨b0, b1, b2, b3, b4, b5, b6, b7, true, b9, b10, b11, true, false, rfl, hc12, by simp, rfl, rfl⟩
        · have hk : b9 = false := by simpa using h1
          have k13 : b13 = false := by
            cases b13
            · rfl
            · have := hc13 rfl; simp [hk] at this
          subst hk k13
          clear h1 hdeps
          cases b12
          · refine wpOpIn_of rfl rfl (wpIn_val (fun _ h => by cases h) (by dsimp only [cond_true, cond_false]; go_simp <;> first | rfl | exact ⟨rfl, rfl⟩) ?_)
            exact ⟨b0, b1, b2, b3, b4, b5, b6, b7, b8, true, b10, b11, false, false, rfl, hc12, by simp, rfl, rfl⟩
          · refine wpOpIn_of rfl rfl (wpIn_val (fun _ h => by cases h) (by dsimp only [cond_true, cond_false]; go_simp <;> first | rfl | exact ⟨rfl, rfl⟩) ?_)
            exact ⟨b0, b1, b2, b3, b4, b5, b6, b7, b8, true, b10, b11, true, false, rfl, hc12, by simp, rfl, rfl⟩
        · have hk : b10 = false := by simpa using h1
          have k13 : b13 = false := by
            cases b13
            · rfl
            · have := hc13 rfl; simp [hk] at this
          have d8 : b8 = true := by
            have := hdeps ⟨8, .data⟩ (by simp) rfl
            simpa using this
          have d9 : b9 = true := by
            have := hdeps ⟨9, .data⟩ (by simp) rfl
            simpa using this
          subst hk k13 d8 d9
          clear h1 hdeps
          refine wpOpIn_of rfl rfl (wpIn_val (fun _ h => by cases h) (by dsimp only [cond_true, cond_false]; go_simp <;> first | rfl | exact ⟨rfl, rfl⟩) ?_)
          exact ⟨b0, b1, b2, b3, b4, b5, b6, b7, true, true, true, b11, b12, false, rfl, hc12, by simp, rfl, rfl⟩
        · have hk : b11 = false := by simpa using h1
          have k13 : b13 = false := by
            cases b13
            · rfl
            · have := hc13 rfl; simp [hk] at this
          have d7 : b7 = true := by
            have := hdeps ⟨7, .data⟩ (by simp) rfl
            simpa using this
          have d10 : b10 = true := by
            have := hdeps ⟨10, .data⟩ (by simp) rfl
            simpa using this
          subst hk k13 d7 d10
          clear h1 hdeps
          refine wpOpIn_of rfl rfl (wpIn_val (fun _ h => by cases h) (by dsimp only [cond_true, cond_false]; go_simp <;> first | rfl | exact ⟨rfl, rfl⟩) ?_)
          exact ⟨b0, b1, b2, b3, b4, b5, b6, true, b8, b9, true, true, b12, false, rfl, hc12, by simp, rfl, rfl⟩
        · have hk : b12 = false := by simpa using h1
          have k13 : b13 = false := by
            cases b13
            · rfl
            · have := hc13 rfl; simp [hk] at this
          have d0 : b0 = true := by
            have := hdeps ⟨0, .phase⟩ (by simp) rfl
            simpa using this
          have d1 : b1 = true := by
            have := hdeps ⟨1, .phase⟩ (by simp) rfl
            simpa using this
          have d2 : b2 = true := by
            have := hdeps ⟨2, .phase⟩ (by simp) rfl
            simpa using this
          have d3 : b3 = true := by
            have := hdeps ⟨3, .phase⟩ (by simp) rfl
            simpa using this
          have d4 : b4 = true := by
            have := hdeps ⟨4, .phase⟩ (by simp) rfl
            simpa using this
          have d5 : b5 = true := by
            have := hdeps ⟨5, .phase⟩ (by simp) rfl
            simpa using this
          have d6 : b6 = true := by
            have := hdeps ⟨6, .data⟩ (by simp) rfl
            simpa using this
          subst hk k13 d0 d1 d2 d3 d4 d5 d6
          clear h1 hdeps
          refine wpOpIn_of rfl rfl (wpIn_skipped (fun _ h => by cases h) (by dsimp only [cond_true, cond_false]; go_simp <;> first | rfl | exact ⟨rfl, rfl⟩) ?_)
          exact ⟨true, true, true, true, true, true, true, b7, b8, b9, b10, b11, true, false, rfl, by simp, by simp, rfl, rfl⟩
        · have hk : b13 = false := by simpa using h1
          have d0 : b0 = true := by
            have := hdeps ⟨0, .phase⟩ (by simp) rfl
            simpa using this
          have d1 : b1 = true := by
            have := hdeps ⟨1, .phase⟩ (by simp) rfl
            simpa using this
          have d2 : b2 = true := by
            have := hdeps ⟨2, .phase⟩ (by simp) rfl
            simpa using this
          have d3 : b3 = true := by
            have := hdeps ⟨3, .phase⟩ (by simp) rfl
            simpa using this
          have d4 : b4 = true := by
            have := hdeps ⟨4, .phase⟩ (by simp) rfl
            simpa using this
          have d5 : b5 = true := by
            have := hdeps ⟨5, .phase⟩ (by simp) rfl
            simpa using this
          have d6 : b6 = true := by
            have := hdeps ⟨6, .phase⟩ (by simp) rfl
            simpa using this
          have d7 : b7 = true := by
            have := hdeps ⟨7, .phase⟩ (by simp) rfl
            simpa using this
          have d8 : b8 = true := by
            have := hdeps ⟨8, .phase⟩ (by simp) rfl
            simpa using this
          have d9 : b9 = true := by
            have := hdeps ⟨9, .phase⟩ (by simp) rfl
            simpa using this
          have d10 : b10 = true := by
            have := hdeps ⟨10, .phase⟩ (by simp) rfl
            simpa using this
          have d11 : b11 = true := by
            have := hdeps ⟨11, .data⟩ (by simp) rfl
            simpa using this
          have d12 : b12 = true := by
            have := hdeps ⟨12, .chain⟩ (by simp) rfl
            simpa using this
          subst hk d0 d1 d2 d3 d4 d5 d6 d7 d8 d9 d10 d11 d12
          clear h1 hdeps
          refine wpOpIn_of rfl rfl (wpIn_skipped (fun _ h => by cases h) (by dsimp only [cond_true, cond_false]; go_simp <;> first | rfl | exact ⟨rfl, rfl⟩) ?_)
          exact ⟨true, true, true, true, true, true, true, true, true, true, true, true, true, true, rfl, by simp, by simp, rfl, rfl⟩
      case last =>
        rintro listed a w' ⟨b0, b1, b2, b3, b4, b5, b6, b7, b8, b9, b10, b11, b12, b13, rfl, _, _, rfl, rfl⟩ hall
        have ha : ∀ j, j < 14 → #[b0, b1, b2, b3, b4, b5, b6, b7, b8, b9, b10, b11, b12, b13].getD j true = true := hall
        have a0 : b0 = true := ha 0 (by omega)
        have a1 : b1 = true := ha 1 (by omega)
        have a2 : b2 = true := ha 2 (by omega)
        have a3 : b3 = true := ha 3 (by omega)
        have a4 : b4 = true := ha 4 (by omega)
        have a5 : b5 = true := ha 5 (by omega)
        have a6 : b6 = true := ha 6 (by omega)
        have a7 : b7 = true := ha 7 (by omega)
        have a8 : b8 = true := ha 8 (by omega)
        have a9 : b9 = true := ha 9 (by omega)
        have a10 : b10 = true := ha 10 (by omega)
        have a11 : b11 = true := ha 11 (by omega)
        have a12 : b12 = true := ha 12 (by omega)
        have a13 : b13 = true := ha 13 (by omega)
        subst a0 a1 a2 a3 a4 a5 a6 a7 a8 a9 a10 a11 a12 a13
        clear ha hall
        have hKO : KeepsOthers W W.drew := KeepsOthers.of_grownBy (row := none) ⟨rfl, rfl, rfl, Nat.le_refl _, fun _ _ _ => rfl⟩ (fun j o e => by cases e)
        refine ⟨(hKO.trans (KeepsOthers.setCell _ _ _)).trans (KeepsOthers.setCell _ _ _), fun r => ?_, ⟨?_, ?_, ?_, ?_⟩, ?_⟩
        · exact (Rd.set (W := W.drew) r (c := w.heap.size + 1 + 1) (by omega) (by omega) _).set (c := w.heap.size + 1 + 1 + 1) (by omega) (by omega) _
        · exact (Bx.other (W := W.drew) (c := w.heap.size + 1 + 1) G0.out (by omega) _).other (c := w.heap.size + 1 + 1 + 1) (by omega) _
        · exact (Bx.other (W := W.drew) (c := w.heap.size + 1 + 1) G1.out (by omega) _).other (c := w.heap.size + 1 + 1 + 1) (by omega) _
        · rw [HE.out.1]
          exact (Bx.set (W := W.drew) G2.out _).other (c := w.heap.size + 1 + 1 + 1) (by omega) _
        · rw [HE.out.2]
          exact (Bx.other (W := W.drew) (c := w.heap.size + 1 + 1) G3.out (by omega) _).set _
        · exact ((hB.drew).setCell (p := ⟨w.heap.size + 1 + 1, 0, none⟩) (by simp; omega) _).setCell (p := ⟨w.heap.size + 1 + 1 + 1, 0, none⟩) (by simp; omega) _
    case done =>
      rintro D ys W hD hys ⟨⟨b0, b1, b2, b3⟩, hB⟩ hK
      have hW : backW xs p b ys = worthI xs p b := by unfold backW; rw [hys]
      have hlen : ys.length = xs.length := by
        have := congrArg List.length hys
        simpa using this
      rw [hW] at b2
      rw [hlen] at b3
      have c2 := b2.1
      have c3 := b3.1
      have HK := Lib.hid hK
      have HD := Lib.hid hD

      clear b0 b1 b2 b3 hW hlen hys hK hD
      generalize worthI xs p b = U at *
      generalize (b + p) ^ xs.length = L at *
      gi_wp2
      gi_region
      all_goals
        gi_wp2
        have hK' : W.drew.heap[D]? = some (.deferred (some [])) := HK.out
        refine ⟨by simp, .inl ⟨_, _, rfl, run_takeDeferred hK', ?_⟩⟩
        refine ⟨.tuple #[.int .i64 U, .int .i64 L], by simp [results, Try.f40, go_sem], by rw [E1.out, E2.out], ?_⟩
        exact hB.drew.trans (belowK_b (w := w) (Nat.le_refl _) _ D _ _ (Nat.le_trans F5.out.size HD.out) hK' rfl rfl)
    case stop =>
      rintro D c pre W hD _ h
      exact h.elim

end Go.Proofs.Ytfgafbjofkicdaa
