/- The drawn arguments of the laws of tables. -/
import Derived.Test.YtlibfmbbchhjeaaDrawG
import Derived.Test.YtlibfmbbchhjeaaERoundGrid
import Derived.Deep.AppendLies
import Derived.IntWalk
namespace Go.Proofs.Ytlibfmbbchhjeaa
open Go.RowKit Flat

section
variable {g : List (List Int)} {u : Int}

theorem C_ok : ∀ (r p : Nat) (c : Nat → Int), okTo g u p c → ∀ c' ∈ C (fF g u) (incF g u) r p c, okTo g u (p + r) c'
  | 0, p, c, h, c', hc => by
    simp only [C, List.mem_singleton] at hc
    subst hc
    exact h
  | r + 1, p, c, h, c', hc => by
    rw [C, List.mem_append] at hc
    rw [show p + (r + 1) = (p + 1) + r by omega]
    rcases hc with hc | hc
    · exact C_ok r (p + 1) _ (h.upd (.inl rfl)) c' hc
    · by_cases hi : incF g u p = true
      · rw [if_pos hi] at hc
        exact C_ok r (p + 1) _ (h.upd (.inr ⟨hi, rfl⟩)) c' hc
      · rw [if_neg hi] at hc
        cases hc

/-- What is known of a rounded table. -/
theorem rounded_facts {t : List (List Int)} (h : roundedG g u = some t) : vGrid g u = true ∧ Small t (rowOf g 0).length ∧ t.length = g.length ∧ roundS g u t = true ∧ (u = 1 → t = g) := by
  have h1 : vGrid g u = true := by
    cases h1 : vGrid g u
    · rw [roundedG, h1] at h; cases h
    · rfl
  rw [roundedG, h1, if_pos rfl] at h
  unfold firstFit at h
  rw [Option.map_eq_some_iff] at h
  obtain ⟨c, hc, rfl⟩ := h
  have hf := List.find?_some hc
  have hm := List.mem_of_find?_eq_some hc
  have hok := C_ok (g.length * (rowOf g 0).length) 0 _ (fun q hq => absurd hq (Nat.not_lt_zero _)) c hm
  rw [Nat.zero_add] at hok
  refine ⟨h1, unflat_small h1 hok, unflat_len _ _ _, hf, fun hu => ?_⟩
  have hs : sameForm g g := ⟨rfl, fun i => rfl⟩
  refine Eq.trans ?_ (unflat_flat h1 hs)
  subst hu
  have he : ∀ q, q < g.length * (rowOf g 0).length → c q = flat (rowOf g 0).length g q := fun q hq => by
    rcases hok q hq with h | ⟨hi, _⟩
    · rw [h]; unfold fF; exact Int.ediv_one _
    · unfold incF at hi
      rw [Int.emod_one] at hi
      simp at hi
  unfold unflat
  refine List.map_congr_left fun i hi => List.map_congr_left fun k hk => he _ ?_
  have hi' := List.mem_range.1 hi
  have hk' := List.mem_range.1 hk
  have : (i + 1) * (rowOf g 0).length ≤ g.length * (rowOf g 0).length := Nat.mul_le_mul_right _ (by omega)
  rw [Nat.succ_mul] at this
  omega

end

theorem Small.rows36 {t : List (List Int)} {m : Nat} (h : Small t m) : Rows36 t :=
  ⟨h.1.2, fun i hi => ⟨by have := (h.2.2 i hi).1; have := h.2.1.2; omega, fun x hx => by have := h.mem hi x hx; omega⟩⟩

theorem Rows36.sized {g : List (List Int)} (h : Rows36 g) : Sized g := ⟨Nat.le_trans h.1 (by decide), fun i hi => Nat.le_trans (h.2 i hi).1 (by decide)⟩

theorem Rows36.fits {g : List (List Int)} (h : Rows36 g) : FitsG g := fun i k hi hk => by
  have := (h.2 i hi).2 (cellOf g i k) (by simp [cellOf, List.getD, hk])
  omega

set_option maxHeartbeats 1600000 in
theorem DrawRoundGrid_any (a : Option Addr) (n cap : Nat) (w : World) (h : IsBytes w a n) (hc : n ≤ cap) :
    Calls Try.prog 39 #[.slice a n cap] w fun e w' => ∃ v g u, e = .returned (.tuple #[v, .int .i64 u]) ∧ IsGrid w' v g ∧ Rows36 g ∧ (0 ≤ u ∧ u ≤ 13) ∧ Below w.heap.size w w' := by
  go_enter Try.func39, Try.ntmps39
  go_wp2_with fail
  refine (newReader_any a n cap _ h hc).mono ?_
  rintro e w1 ⟨rfl, h1, b1⟩
  have hR := h1.lt
  go_wp2_with fail
  refine (someGrid_any _ _ _ _ _ h1 (by omega)).mono ?_
  rintro e w2 ⟨v, vs, g, rfl, st2, r36⟩
  obtain ⟨av, cv, rfl, _⟩ := st2.tb.table.grid
  clear h1
  go_wp2_with fail
  refine (one_lit [10, 5, 7, 3, 12, 2, 1, 0, 13] _ 9 rfl rfl _ _ _ _ _ _ st2.rd (by omega) (by simp) (by simp) rfl).mono ?_
  rintro e w3 ⟨u, rfl, hu, h3, g3⟩
  have hub : 0 ≤ u ∧ u ≤ 13 := by
    simp only [List.mem_cons, List.not_mem_nil, or_false] at hu
    omega
  have st3 := st2.pick hR.2 h3 g3
  have b3 := below_reader b1 st3.gr
  have H := Lib.hid st3.tb.table.grid
  clear hu st2 h3 g3 st3
  go_wp2
  go_ret2
  exact ⟨_, _, _, rfl, H.out, r36, hub, b3⟩

set_option maxRecDepth 100000 in
set_option maxHeartbeats 6400000 in
theorem DrawIsRounded_any (a : Option Addr) (n cap : Nat) (w : World) (h : IsBytes w a n) (hc : n ≤ cap) :
    Calls Try.prog 34 #[.slice a n cap] w fun e w' => ∃ v g u z o, e = .returned (.tuple #[v, .int .i64 u, z]) ∧ IsGrid w' v g ∧ Rows36 g ∧ (1 ≤ u ∧ u ≤ 12) ∧ IsGrid w' z o ∧ Rows36 o ∧ Below w.heap.size w w' := by
  go_enter Try.func34, Try.ntmps34
  go_wp2_with fail
  refine (newReader_any a n cap _ h hc).mono ?_
  rintro e w1 ⟨rfl, h1, b1⟩
  have hR := h1.lt
  go_wp2_with fail
  refine (someGrid_any _ _ _ _ _ h1 (by omega)).mono ?_
  rintro e w2 ⟨v, vs, g, rfl, st2, r36⟩
  obtain ⟨av, cv, rfl, _⟩ := st2.tb.table.grid
  clear h1
  go_wp2_with fail
  refine (one_lit [10, 5, 7, 3, 12, 2, 1] _ 7 rfl rfl _ _ _ _ _ _ st2.rd (by omega) (by simp) (by simp) rfl).mono ?_
  rintro e w3 ⟨u, rfl, hu, h3, g3⟩
  have hub : 1 ≤ u ∧ u ≤ 12 := by
    simp only [List.mem_cons, List.not_mem_nil, or_false] at hu
    omega
  have st3 := st2.pick hR.2 h3 g3
  have hsz := sized_rows r36.sized
  clear hu st2 h3 g3
  go_wp2_with fail
  refine (RoundGrid_spec _ g u _ st3.tb.table.grid hsz.1 hsz.2).mono ?_
  rintro e w4 ⟨z, rfl, ht, hb4⟩
  have s34 : w1.heap.size ≤ w3.heap.size := st3.gr.size
  have st4 := st3.past hR (grown_below hb4 none) (fun k hk => by cases hk)
  have tg := st3.tb.lt
  clear st3
  cases hT : roundedG g u with
  | none =>
    rw [hT] at ht
    obtain rfl := ht.2 rfl
    have H := Lib.hid st4.tb.table.grid
    have b4 := below_reader b1 st4.gr
    clear ht hT st4 hb4 tg
    go_wp2
    go_ret3
    exact ⟨_, _, _, _, _, rfl, H.out, r36, hub, (ownT_nil _ 0).grid, ⟨by simp, fun i hi => absurd hi (Nat.not_lt_zero _)⟩, b4⟩
  | some t =>
    obtain ⟨zs, hz⟩ := (ht.1 t hT).values
    have h1 := (rounded_facts hT).1
    have hsm := (rounded_facts hT).2.1
    have hgs := small_vGrid h1
    have HSM := Lib.hid hsm
    have tl3 : t.length ≤ 3 := hsm.1.2
    have tl1 : 0 < t.length := by have := hsm.1.1; omega
    have tlz : (0 : Int) < (t.length : Int) := by omega
    rcases id hz.2.1.2 with ⟨_, h0⟩ | ⟨b, capz, curz, rfl, _⟩
    · exact absurd h0 (by omega)
    clear ht hT h1 hsm hgs
    have hR3 : w.heap.size < w3.heap.size := by omega
    have hd : decide ((0 : Int) < (t.length : Int)) = true := decide_eq_true tlz
    have z4 := hz
    clear hz
    go_wp2_with fail
    refine (pick_has 2 _ _ _ _ _ st4.rd (by omega) (by omega)).mono ?_
    rintro e w5 ⟨y1, rfl, ⟨p0, p1, _⟩, h5, g5⟩
    have p2 := p1 (by omega)
    have st5 := st4.pick hR.2 h5 g5
    have z5 := z4.kept g5 (z4.pastR hR3).1 (z4.pastR hR3).2
    clear p1 st4 z4 h5 g5
    by_cases hy : y1 = 0
    · subst hy
      go_wp2_with fail
      refine (pick_has (t.length : Int) _ _ _ _ _ st5.rd (by omega) (by omega)).mono ?_
      rintro e w6 ⟨i, rfl, ⟨i0, i1, _⟩, h6, g6⟩
      have i2 := i1 (by omega)
      obtain ⟨i, rfl⟩ : ∃ j : Nat, i = j := ⟨i.toNat, by omega⟩
      have il : i < t.length := by omega
      have st6 := st5.pick hR.2 h6 g6
      have z6 := z5.kept g6 (z5.pastR hR3).1 (z5.pastR hR3).2
      clear i1 st5 z5 h6 g6
      have hrl := (HSM.out.2.2 i il).1
      have hrb := HSM.out.mem il
      have hm3 := HSM.out.2.1
      have rl1 : 0 < (rowOf t i).length := by omega
      have rl3 : (rowOf t i).length ≤ 3 := by omega
      have cn6 := World.ownsRow.cellAt z6.2.1 i (by omega)
      rw [show zs[i]? = some (zs.getD i undef) by rw [List.getD_eq_getElem?_getD, List.getElem?_eq_getElem (by rw [z6.1]; exact il)]; rfl] at cn6
      have hrow6 := (z6.2.2.1 i il).1
      have hap := (z6.2.2.1 i il).2
      generalize hrvv : zs.getD i undef = rv at *
      rcases id hrow6.2 with ⟨_, h0⟩ | ⟨g2, cap2, cur2, rfl, _⟩
      · exact absurd h0 (by omega)
      have HRB := Lib.hid hrb
      clear hrl hrb hm3
      go_wp2_with fail
      refine (pick_has ((rowOf t i).length : Int) _ _ _ _ _ st6.rd (by omega) (by omega)).mono ?_
      rintro e w7 ⟨k, rfl, ⟨k0, k1, _⟩, h7, g7⟩
      have k2 := k1 (by omega)
      obtain ⟨k, rfl⟩ : ∃ j : Nat, k = j := ⟨k.toNat, by omega⟩
      have kl : k < (rowOf t i).length := by omega
      have st7 := st6.pick hR.2 h7 g7
      have z7 := z6.kept g7 (z6.pastR hR3).1 (z6.pastR hR3).2
      have hg2w := hrow6.lt g2 rfl
      have hbw := z6.lt.1 b rfl
      have hgR : (Value.slice (some ⟨g2, 0, none⟩) (rowOf t i).length cap2).ownBlock ≠ some w.heap.size := by
        simp [Value.ownBlock]; omega
      have hbR : some b ≠ some w.heap.size := by simp; omega
      have hbg : some b ≠ some g2 := by
        rcases hap with h | h
        · exact absurd h (by simp [Value.ownBlock])
        · exact fun e => h (by simp [Value.ownBlock]; simpa using e.symm)
      have cn : w7.cell? ⟨b, i, none⟩ = some (.slice (some ⟨g2, 0, none⟩) (rowOf t i).length cap2) := g7.cell cn6 hbR
      have hrow7 := hrow6.kept g7 (.inr hgR)
      have c0 : w7.cell? ⟨g2, k, none⟩ = some (.int .i64 ((rowOf t i).getD k 0)) := hrow7.cell rfl k kl
      have hx : 0 ≤ (rowOf t i).getD k 0 ∧ (rowOf t i).getD k 0 ≤ 50 := HRB.out _ (by simp [List.getD, kl])
      generalize hxx : (rowOf t i).getD k 0 = x at c0 hx
      have hbl : Below w7.heap.size w7 (w7.alloc (.cells #[.int .i64 1, .int .i64 (-1)] 3)).drew := ((Below.refl w7.heap.size w7).alloc (Nat.le_refl _) _).drew
      have hb7 : b < w7.heap.size := Nat.lt_of_lt_of_le hbw.2 g7.size
      have hg7 : g2 < w7.heap.size := Nat.lt_of_lt_of_le hg2w.2 g7.size
      have cnA : (w7.alloc (.cells #[.int .i64 1, .int .i64 (-1)] 3)).drew.cell? ⟨b, i, none⟩ = some (.slice (some ⟨g2, 0, none⟩) (rowOf t i).length cap2) := (hbl.cell (p := ⟨b, i, none⟩) hb7).trans cn
      have cxA : (w7.alloc (.cells #[.int .i64 1, .int .i64 (-1)] 3)).drew.cell? ⟨g2, k, none⟩ = some (.int .i64 x) := (hbl.cell (p := ⟨g2, k, none⟩) hg7).trans c0
      have ol := (own_lit w7 w7.heap.size [1, -1] #[.int .i64 1, .int .i64 (-1)] rfl (Nat.le_refl _) (by simp)).below (Below.refl _ _).drew
      have P8 := one_has (.slice (some ⟨w7.heap.size, 0, none⟩) 2 2) [1, -1] _ _ _ _ _ (st7.rd.later hbl) (by omega) ol.ints (by simp [Value.ownBlock]; have := st7.rd.lt; omega) (by simp) (by simp)
      have HP8 := Lib.hid P8
      have HYB : Hid (∀ y ∈ [(1 : Int), -1], -1 ≤ y ∧ y ≤ 1) := fun y hy => by
        simp only [List.mem_cons, List.not_mem_nil, or_false] at hy
        omega
      have ST := Lib.hid st7
      have Z7 := Lib.hid z7
      clear P8 st7 z7 st6 z6 hrow6 cn6 ol h7 g7
      go_wp2
      go_region_law ((first | (go_simp; go_at_call 65; (with_reducible refine HP8.out.mono ?_); rintro e w8 ⟨y, rfl, hy, h8, g8⟩; have hyb : -1 ≤ y ∧ y ≤ 1 := HYB.out y hy; have o8 := (hrow7.below hbl).kept g8 (.inr hgR); have cn8 := g8.cell cnA hbR; have c8 : w8.cell? ⟨g2, k, none⟩ = some (.int .i64 x) := hxx ▸ o8.cell rfl k kl; have f8 := o8.frozen rfl k)))
      all_goals
        rw [IntWalk.i64_in (x + y) (by omega)]
        have st8 := (ST.out.past hR (grown_below hbl none) (fun k hk => by cases hk)).pick hR.2 h8 g8
        have z8a := Z7.out.below hbl
        have z8 := z8a.kept g8 (z8a.pastR hR3).1 (z8a.pastR hR3).2
        have hst := o8.set rfl k (x + y)
        have z9 := z8.mark il (r := (rowOf t i).set k (x + y)) (by rw [hrvv]; exact hst.2) (by rw [hrvv]; exact hst.1)
        have st9 := st8.past hR hst.2 (fun k hk => by cases hk; exact ⟨by omega, fun e => by have := (tg.1 _ e).2; omega, fun i hi e => by have := (tg.2 i hi _ e).2; omega⟩)
        have b9 := below_reader b1 st9.gr
        have H := Lib.hid st9.tb.table.grid
        have HZ := Lib.hid z9.table.grid
        have R36 := Lib.hid (HSM.out.rows36.set i (r := (rowOf t i).set k (x + y)) (by simp; omega) (fun z hz => by
          rcases List.mem_or_eq_of_mem_set hz with hz | hz
          · exact (HSM.out.rows36.2 i il).2 z hz
          · subst hz; omega))
        have B9 := Lib.hid b9
        clear b9 st9 z9 hst z8 z8a st8 HP8 cnA cxA o8 cn8 c8 f8 h8 g8
        go_wp2
        go_ret3
        exact ⟨_, _, _, _, _, rfl, H.out, r36, hub, HZ.out, R36.out, B9.out⟩
    · have f1 : (y1 == 0) = false := by simpa using hy
      have H := Lib.hid st5.tb.table.grid
      have HZ := Lib.hid z5.table.grid
      have b5 := below_reader b1 st5.gr
      have R36 := Lib.hid HSM.out.rows36
      clear st5 z5 tg
      go_wp2
      go_ret3
      exact ⟨_, _, _, _, _, rfl, H.out, r36, hub, HZ.out, R36.out, b5⟩

end Go.Proofs.Ytlibfmbbchhjeaa
