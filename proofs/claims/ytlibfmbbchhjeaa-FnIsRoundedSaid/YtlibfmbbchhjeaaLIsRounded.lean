/- The law FnIsRounded: the walk. -/
import Derived.Test.YtlibfmbbchhjeaaDrawsG
import Derived.Test.YtlibfmbbchhjeaaTurn
namespace Go.Proofs.Ytlibfmbbchhjeaa
open Go.RowKit Flat

theorem turn_fits {o : List (List Int)} {n m : Nat} (h : Rows36 o) (hr : Rect o n m) (hn : 0 < n) : FitsG (turnL o) := fun k i hk hi => by
  have ht := hr.turn hn
  rw [ht.1] at hk
  rw [ht.2 k hk] at hi
  rw [hr.cell hn hi hk]
  exact h.fits i k (by rw [hr.1]; exact hi) (by rw [hr.2 i hi]; exact hk)

set_option maxRecDepth 100000 in
set_option maxHeartbeats 6400000 in
theorem FnIsRounded_walk (a : Option Addr) (n cap : Nat) (w : World) (h : IsBytes w a n) (hc : n ≤ cap) :
    Calls Try.prog 8 #[.slice a n cap] w fun e w' => e = .returned (.bool true) ∧ Below w.heap.size w w' := by
  by_cases hbig : (1048576 : Int) < (n : Int)
  · go_enter Try.func8, Try.ntmps8
    go_wp2
    go_ret
    exact ⟨rfl, Below.refl _ _⟩
  · go_enter Try.func8, Try.ntmps8
    go_wp2_with fail
    refine (DrawIsRounded_any a n cap w h hc).mono ?_
    rintro e w1 ⟨v, g, u, z, o, rfl, g1, r36, hu, o1, q36, b1⟩
    have hsz := sized_rows r36.sized
    have hso := sized_rows q36.sized
    have G1 := Lib.hid g1
    have O1 := Lib.hid o1
    obtain ⟨av, cv, rfl, _⟩ := g1
    obtain ⟨az, cz, rfl, _⟩ := o1
    go_wp2_with fail
    refine (isRounded_impl _ _ g o u _ G1.out O1.out hsz.1 hsz.2 q36.fits).mono ?_
    rintro e w2 ⟨rfl, hb2⟩
    rw [roundP_eq]
    have b2 : Below w.heap.size w w2 := b1.trans (hb2.mono b1.size)
    have g2 := G1.out.below hb2
    have o2 := O1.out.below hb2
    clear G1 O1 hb2
    go_wp2_with fail
    refine (isRounded_spec _ _ g o u _ g2 o2 hsz.1 hsz.2).mono ?_
    rintro e w3 ⟨rfl, hd3⟩
    have b3 : Below w.heap.size w w3 := b2.trans (hd3.below.mono b2.size)
    have g3 := g2.below hd3.below
    have o3 := o2.below hd3.below
    clear g2 o2 hd3
    have HN : Hid (∀ i, i < g.length → rowNear g u o i = false → roundS g u o = false) := fun i hi h => roundS_no hi h
    have HTU : Hid (vGrid g u = true → Rect o g.length (rowOf g 0).length → roundS (turnL g) u (turnL o) = roundS g u o) := fun h1 h2 => roundS_turn h1 h2
    have HSP : Hid (∀ w', IsGrid w' (.slice av g.length cv) g → IsGrid w' (.slice az o.length cz) o → Calls Try.prog 36 #[.slice av g.length cv, .int .i64 u, .slice az o.length cz] w' fun e w'' => e = .returned (.bool (roundS g u o)) ∧ Drawn w' w'') := fun w' hg ho => isRounded_spec _ _ g o u w' hg ho hsz.1 hsz.2
    generalize roundS g u o = rb at *
    have hne : (rb != rb) = false := by simp
    have heq : (rb == rb) = true := by simp
    go_wp2_with fail
    refine (RoundGrid_impl _ g u _ g3 hsz.1 hsz.2).mono ?_
    rintro e w4 ⟨y, rfl, ha, hb4⟩
    have b4 : Below w.heap.size w w4 := b3.trans (hb4.mono b3.size)
    have g4 := g3.below hb4
    have o4 := o3.below hb4
    have i4 := ha.table.grid
    clear g3 o3 hb4 ha
    cases hT : roundedG g u with
    | none =>
      rw [hT] at i4
      obtain ⟨ay, cy, rfl, _⟩ := i4
      simp only [Option.getD_none, List.length_nil]
      go_wp2_with fail
      refine (HSP.out _ g4 o4).mono ?_
      rintro e w5 ⟨rfl, hd5⟩
      have b5 := b4.trans (hd5.below.mono b4.size)
      go_wp2
      go_ret
      exact ⟨rfl, b5⟩
    | some t =>
      rw [hT] at i4
      rw [Option.getD_some] at i4
      have h1 := (rounded_facts hT).1
      have hsm := (rounded_facts hT).2.1
      obtain ⟨ay, cy, rfl, _⟩ := i4
      have tl1 : 0 < t.length := by have := hsm.1; omega
      have tlz : ((t.length : Int) == 0) = false := beq_eq_false_iff_ne.2 (by omega)
      clear hsm hT
      have H1 := Lib.hid h1
      clear h1
      by_cases hlen : o.length = g.length
      · have hln : ((o.length : Int) != (g.length : Int)) = false := by simp [hlen]
        have HLEN := Lib.hid hlen
        have G4 := Lib.hid g4
        have O4 := Lib.hid o4
        clear hlen g4 o4
        have hog : 0 < o.length := by have := HLEN.out; have := (small_vGrid H1.out).1; omega
        have hgg : (0 : Int) < (g.length : Int) := by have := (small_vGrid H1.out).1; omega
        have hgn : 0 < g.length := by omega
        have ho3 := q36.1
        go_wp2
        go_loopw [7] (fun iv wr => ∃ i : Nat, i ≤ o.length ∧ iv = .int .i64 i ∧ (∀ j, j < i → (rowOf o j).length = (rowOf g 0).length) ∧ Below w4.heap.size w4 wr) (fun iv _ => o.length - (intOf iv).toNat)
        case atStart => exact ⟨0, Nat.zero_le _, rfl, fun j hj => absurd hj (Nat.not_lt_zero _), Below.refl _ _⟩
        case round =>
          obtain ⟨i, hi, rfl, hrows, hbl⟩ := hrel
          rename World => wo
          have HR := Lib.hid hrows
          clear hrows
          have gw := G4.out.below hbl
          have ow := O4.out.below hbl
          by_cases hlt : i < o.length
          · have i1 : (i : Int) < (o.length : Int) := by omega
            obtain ⟨bo, fo, ro, co, rfl, c1, _⟩ := ow.row i hlt
            obtain ⟨bg, fg, rg, cg, rfl, c2, _⟩ := gw.row 0 hgn
            rw [Nat.add_zero] at c2
            by_cases hrl : (rowOf o i).length = (rowOf g 0).length
            · have hnn : (((rowOf o i).length : Int) != ((rowOf g 0).length : Int)) = false := by simp [hrl]
              have HRL := Lib.hid hrl
              clear hrl gw ow
              go_wp2
              go_quiet (fail)
              go_wp2
              go_roundw
              case rel =>
                refine ⟨i + 1, by omega, by go_num, fun j hj => ?_, below_drewN hbl _⟩
                by_cases hji : j = i
                · rw [hji]; exact HRL.out
                · exact HR.out j (by omega)
              case measure => simp [intOf]; omega
            · have hnn : (((rowOf o i).length : Int) != ((rowOf g 0).length : Int)) = true := by simp; omega
              have hrb : rb = false := HN.out i (by rw [← HLEN.out]; exact hlt) (by unfold rowNear; rw [decide_eq_false hrl]; rfl)
              subst hrb
              have bd := b4.trans (hbl.mono b4.size)
              clear gw ow
              go_wp2
              go_quiet (fail)
              go_wp2
              go_ret
              exact ⟨rfl, below_drewN bd _⟩
          · have hie : i = o.length := by omega
            subst hie
            have hrg := vGrid_rect H1.out
            have hro : Rect o g.length (rowOf g 0).length := ⟨HLEN.out, fun j hj => HR.out j (by rw [HLEN.out]; exact hj)⟩
            have hsv := small_vGrid H1.out
            have hm3 : (rowOf g 0).length ≤ 1048576 := by have := hsv.2.1; omega
            have hn3 : g.length ≤ 1048576 := by have := hsv.1; omega
            have hr1 : (rowOf g 0).length = (rowOf o 0).length := (hro.2 0 hgn).symm
            have bd := b4.trans (hbl.mono b4.size)
            have HRO := Lib.hid hro
            have hte := HTU.out H1.out hro
            have HTE := Lib.hid hte
            have htg : (turnL g).length ≤ 9223372036854775807 := by rw [turnL_len]; omega
            have htr : ∀ k, k < (turnL g).length → (rowOf (turnL g) k).length ≤ 9223372036854775807 := fun k hk => by
              rw [turnL_len] at hk
              rw [(hrg.turn hgn).2 k hk]; omega
            have hfo := turn_fits q36 hro hgn
            clear hro hte hr1 hsv
            go_wp2_with fail
            refine (turned_any _ g g.length (rowOf g 0).length _ gw hrg hgn hn3 hm3).mono ?_
            rintro e w5 ⟨v5, rfl, t5, hb5⟩
            have b5 := bd.trans (hb5.mono bd.size)
            have ow5 := ow.below hb5
            clear gw ow hb5
            go_wp2_with fail
            refine (turned_any _ o g.length (rowOf g 0).length _ ow5 HRO.out hgn hn3 hm3).mono ?_
            rintro e w6 ⟨v6, rfl, t6, hb6⟩
            have b6 := b5.trans (hb6.mono b5.size)
            have t5b := t5.below hb6
            clear ow5 t5 hb6
            go_wp2_with fail
            refine (isRounded_impl _ _ (turnL g) (turnL o) u _ t5b t6 htg htr hfo).mono ?_
            rintro e w7 ⟨rfl, hb7⟩
            rw [roundP_eq, HTE.out]
            have b7 := b6.trans (hb7.mono b6.size)
            go_wp2
            go_ret
            exact ⟨rfl, b7⟩
      · have hln : ((o.length : Int) != (g.length : Int)) = true := by simp; omega
        go_wp2_with fail
        refine (HSP.out _ g4 o4).mono ?_
        rintro e w5 ⟨rfl, hd5⟩
        have b5 := b4.trans (hd5.below.mono b4.size)
        go_wp2
        go_ret
        exact ⟨rfl, b5⟩

end Go.Proofs.Ytlibfmbbchhjeaa
