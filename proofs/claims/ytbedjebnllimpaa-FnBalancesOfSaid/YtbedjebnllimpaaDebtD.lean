/- Drawn debts. -/
import Derived.Test.YtbedjebnllimpaaTS
import Derived.IntWalk
namespace Go.Proofs.Ytbedjebnllimpaa
open Go.RowKit

/-- Drawn debts: at most 6 rows, of at most 7 numbers from -1 to 51. -/
def Rows67 (g : List (List Int)) : Prop := g.length ≤ 6 ∧ ∀ i, i < g.length → (rowOf g i).length ≤ 7 ∧ ∀ x ∈ rowOf g i, -1 ≤ x ∧ x ≤ 51

theorem RowsN.rows67 {n : Nat} {g : List (List Int)} (h : RowsN n g) (hn : n ≤ 6) (hl : g.length ≤ 6) : Rows67 g :=
  ⟨hl, fun i hi => ⟨by have := (h i hi).1; omega, fun x hx => by have := (h i hi).2 x hx; omega⟩⟩

theorem Rows67.set {g : List (List Int)} {r : List Int} (h : Rows67 g) (i : Nat) (hl : r.length ≤ 7) (hr : ∀ x ∈ r, -1 ≤ x ∧ x ≤ 51) : Rows67 (g.set i r) := by
  refine ⟨by rw [List.length_set]; exact h.1, fun j hj => ?_⟩
  rw [List.length_set] at hj
  by_cases e : j = i
  · subst e
    have : rowOf (g.set j r) j = r := by simp [rowOf, List.getD, hj]
    rw [this]; exact ⟨hl, hr⟩
  · have e' : ¬ i = j := fun x => e x.symm
    have : rowOf (g.set i r) j = rowOf g j := by simp [rowOf, List.getD, e']
    rw [this]; exact h.2 j hj

theorem Rows67.sized {g : List (List Int)} (h : Rows67 g) : Sized g := ⟨Nat.le_trans h.1 (by decide), fun i hi => Nat.le_trans (h.2 i hi).1 (by decide)⟩

theorem Rows67.fits {g : List (List Int)} (h : Rows67 g) : FitsG g := fun i k hi hk => by
  have := (h.2 i hi).2 (cellOf g i k) (by simp [cellOf, List.getD, hk])
  omega

set_option maxRecDepth 100000 in
set_option maxHeartbeats 6400000 in
theorem someDebts_any (B R : Nat) (a : Option Addr) (q : Nat) (w : World) (h : HasReader w B R a q) (hq : q ≤ 800000) :
    Calls Try.prog 64 #[.pointer (some ⟨R, 0, none⟩)] w fun e w' => ∃ v vs g, e = .returned v ∧ TabSt w w' B R a (q + 300) v vs g ∧ Rows67 g := by
  have hRl := h.lt
  obtain ⟨i0, hi0, hz0, hz1, hz2⟩ := info_parts infoInt
  go_enter Try.func64, Try.ntmps64
  go_wp2_with fail
  refine (one_lit [3, 4, 2, 5, 6, 1] _ 6 rfl rfl _ B R a q _ h (by omega) (by simp) (by simp) (by simp)).mono ?_
  rintro e w1 ⟨n, rfl, hn, h1, g1⟩
  have hn6 : 1 ≤ n ∧ n ≤ 6 := by
    simp only [List.mem_cons, List.not_mem_nil, or_false] at hn
    omega
  obtain ⟨nn, rfl⟩ : ∃ nn : Nat, n = nn := ⟨n.toNat, by omega⟩
  have st1 : TabSt w (w1.alloc (.cells #[] 28)) B R a (q + 1) (.slice (some ⟨w1.heap.size, 0, none⟩) 0 0) [] [] :=
    ⟨h1.later ((Below.refl _ _).alloc (Nat.le_refl _) _), ownTV_empty w1 _ g1.size, g1.trans (World.grownBy_alloc w1 _ _)⟩
  clear hn h1 g1
  go_wp2
  go_loopw [4, 5, 6, 7] (fun v s _ _ wr => ∃ i vs g, i ≤ nn ∧ s = .int .i64 (i : Nat) ∧ g.length = i ∧ TabSt w wr B R a (q + 1 + 30 * i) v vs g ∧ RowsN nn g) (fun _ s _ _ _ => nn - (intOf s).toNat)
  case atStart => exact ⟨0, [], [], Nat.zero_le _, rfl, rfl, st1, fun i hi => absurd hi (Nat.not_lt_zero _)⟩
  case round =>
    obtain ⟨i, vs, g, hi, rfl, hlg, hst, hrn⟩ := hrel
    rename World => wo
    have HLG := Lib.hid hlg
    have HRN := Lib.hid hrn
    have hg6 : g.length ≤ 6 := by omega
    obtain ⟨ag, cg, rfl, _⟩ := hst.tb.table.grid
    have hRs : w.heap.size ≤ wo.heap.size := hst.gr.size
    have hRo : R < wo.heap.size := by have := hRl.2; omega
    clear st1 hlg hrn
    by_cases hlt : i < nn
    · have i1 : (i : Int) < (nn : Int) := by omega
      have tl := hst.tb.lt
      go_wp2_with (at_make; refine wpList_make_full _ rfl _ _ 28 rfl wo.heap.size 3 i0 (.int .i64 0) 1 Try.underlying28 hi0 hz0 hz1 _ _ _ _ nn rfl rfl rfl rfl ?b2 ?b3 (Nat.le_refl _) ?_)
      case b2 => rw [hz2]; omega
      case b3 => unfold maxLen; omega
      intro w0 hown0 hgrow0
      have oe : Own w0 wo.heap.size (sl wo.heap.size nn nn) (List.replicate nn 0) := own_made hown0
      have stE := hst.past hRl hgrow0 (fun k hk => by cases hk)
      clear hst hown0 hgrow0
      go_wp2
      go_loopw [7] (fun s wx => ∃ (k : Nat) (xs : List Int), k ≤ nn ∧ s = .int .i64 k ∧ xs.length = nn ∧ TabSt w wx B R a (q + 1 + 30 * i + 4 * k) (.slice ag g.length cg) vs g ∧ Own wx wo.heap.size (sl wo.heap.size nn nn) xs ∧ (∀ x ∈ xs, 0 ≤ x ∧ x ≤ 50)) (fun s _ => nn - (intOf s).toNat)
      case atStart => exact ⟨0, _, Nat.zero_le _, rfl, by simp, stE, oe, fun x hx => by
        have := List.eq_of_mem_replicate hx
        omega⟩
      case round =>
        obtain ⟨k, xs, hk, rfl, hxl, hsx, hox, hxb⟩ := hrel
        rename World => wi
        have HXL := Lib.hid hxl
        have HXB := Lib.hid hxb
        have hne := hox.neBlock hRo
        clear hxl hxb stE oe
        by_cases hlx : k < nn
        · have k1 : (k : Int) < (nn : Int) := by omega
          by_cases hik : i = k
          · have hd : ((i : Int) != (k : Int)) = false := by simp [hik]
            have HIK := Lib.hid hik
            clear hik
            go_wp2
            go_roundw
            case rel => exact ⟨k + 1, xs, by omega, by go_num, HXL.out, ⟨hsx.rd.more (by omega), hsx.tb, hsx.gr⟩, hox, HXB.out⟩
            case measure => simp [intOf]; omega
          · have hd : ((i : Int) != (k : Int)) = true := by simp; omega
            go_wp2_with fail
            refine (pick_has 51 B R a _ _ hsx.rd (by omega) (by omega)).mono ?_
            rintro e w3 ⟨y1, rfl, ⟨p0, p1, _⟩, h3, g3⟩
            have p2 := p1 (by omega)
            have st3 := hsx.pick hRl.2 h3 g3
            have o3 := hox.kept g3 (.inr hne)
            clear p1 hsx hox h3 g3
            go_wp2_with fail
            refine (pick_has 6 B R a _ _ st3.rd (by omega) (by omega)).mono ?_
            rintro e w4 ⟨y2, rfl, ⟨r0, r1, _⟩, h4, g4⟩
            have r2 := r1 (by omega)
            have st4 := st3.pick hRl.2 h4 g4
            have o4 := o3.kept g4 (.inr hne)
            clear r1 st3 o3 h4 g4
            go_wp2_with fail
            refine (one_lit [y1, 0, y2, 0] _ 4 rfl rfl _ B R a _ _ st4.rd (by omega) (by simp) (by simp) rfl).mono ?_
            rintro e w5 ⟨y, rfl, hy, h5, g5⟩
            have hyb : 0 ≤ y ∧ y ≤ 50 := by
              simp only [List.mem_cons, List.not_mem_nil, or_false] at hy
              omega
            have st5 := st4.pick hRl.2 h5 g5
            have o5 := o4.kept g5 (.inr hne)
            have c5 := o5.cell HXL.out k hlx
            have f5 := o5.frozen HXL.out k
            have s5 := o5.set HXL.out k y
            have st6 := st5.past hRl s5.2 (fun j hj => by
              cases hj
              exact ⟨hRs, fun e => by have := (tl.1 _ e).2; omega, fun i hi e => by have := (tl.2 i hi _ e).2; omega⟩)
            have HS := Lib.hid s5.1
            have HT := Lib.hid st6
            clear st4 o4 h5 g5 hy p0 p2 r0 r2 st5 o5 s5 st6
            go_wp2
            go_roundw
            case rel => exact ⟨k + 1, _, by omega, by go_num, by rw [List.length_set]; exact HXL.out, ⟨HT.out.rd.more (by omega), HT.out.tb, HT.out.gr⟩, HS.out, fun x hx => by
              rcases List.mem_or_eq_of_mem_set hx with hx | hx
              · exact HXB.out x hx
              · subst hx; exact hyb⟩
            case measure => simp [intOf]; omega
        · have hap : apartB (sl wo.heap.size nn nn) (.slice ag g.length cg) := (apartB_of (fun k hk => (tl.1 k hk).2) (fun k hk => (hox.lt k hk).1)).symm
          have hrs : ∀ j, j < g.length → apartB (vs.getD j undef) (sl wo.heap.size nn nn) := fun j hj => apartB_of (fun k hk => (tl.2 j hj k hk).2) (fun k hk => (hox.lt k hk).1)
          have hs6 : w.heap.size ≤ wi.heap.size := hsx.gr.size
          go_wp2_with (at_builtin; refine wpList_pushT hsx.tb (hox.base hRs) hap hrs rfl (by omega) hs6 (h := ?_))
          intro nv w5 v5 g5 m5
          have h5 := hsx.rd.kept g5 (fun k hk => by have := (tl.1 k hk).1; omega)
          have t5 : w.grownBy w5 (some R) := grown_fresh hsx.gr g5 (fun k hk => (tl.1 k hk).1)
          have V5 := Lib.hid v5
          clear v5 hap hrs hsx hox g5 m5 tl
          go_wp2
          go_roundw
          case rel => exact ⟨i + 1, _, _, by omega, by go_num, by have := HLG.out; simp; omega, ⟨h5.more (by omega), V5.out, t5⟩, HRN.out.snoc HXL.out HXB.out⟩
          case measure => simp [intOf]; omega
    · have hie : i = nn := by omega
      have hg1 : 0 < g.length := by have := HLG.out; omega
      have hgi : (0 : Int) < (g.length : Int) := by omega
      have R67 := Lib.hid (HRN.out.rows67 (by omega) hg6)
      have hrl0 : (rowOf g 0).length = nn := (HRN.out 0 hg1).1
      have hr0 : 0 < (rowOf g 0).length := by omega
      have hr0i : (0 : Int) < ((rowOf g 0).length : Int) := by omega
      have hr6 : (rowOf g 0).length ≤ 6 := by omega
      have HR0 := Lib.hid hrl0
      have hni : ¬ (i : Int) < (nn : Int) := by omega
      clear hrl0 hie
      go_wp2_with fail
      refine (pick_has 30 B R a _ _ hst.rd (by omega) (by omega)).mono ?_
      rintro e w3 ⟨y1, rfl, ⟨p0, p1, _⟩, h3, g3⟩
      have p2 := p1 (by omega)
      have st3 := hst.pick hRl.2 (h3.more (show q + 1 + 30 * i + 1 ≤ q + 299 by omega)) g3
      have hs3 : w.heap.size ≤ w3.heap.size := st3.gr.size
      have hl3 := st3.tb.1
      clear p1 hst h3 g3
      rcases id st3.tb.2.1.2 with ⟨_, hz⟩ | ⟨b, cap, cur, hsh, _⟩
      · exact absurd hz (by omega)
      simp only [Value.slice.injEq, true_and] at hsh
      obtain ⟨rfl, rfl⟩ := hsh
      have cn := World.ownsRow.cellAt st3.tb.2.1 0 (by omega)
      rw [show vs[0]? = some (vs.getD 0 undef) by rw [List.getD_eq_getElem?_getD, List.getElem?_eq_getElem (by rw [hl3]; exact hg1)]; rfl] at cn
      have hrow3 := (st3.tb.2.2.1 0 hg1).1
      have hap3 := (st3.tb.2.2.1 0 hg1).2
      generalize hrvv : vs.getD 0 undef = rv at *
      have ST := Lib.hid st3
      clear st3
      have hbw := ST.out.tb.lt.1 b rfl
      by_cases e0 : y1 = 0
      · subst e0
        rcases id hrow3.2 with ⟨_, hz⟩ | ⟨g2, cap2, cur2, rfl, _⟩
        · exact absurd hz (by omega)
        have hg2w := hrow3.lt g2 rfl
        have c0 := hrow3.cell rfl 0 hr0
        have f0 := hrow3.frozen rfl 0
        have hst := hrow3.set rfl 0 1
        have tm := ST.out.tb.mark hg1 (r := (rowOf g 0).set 0 1) (by rw [hrvv]; exact hst.2) (by rw [hrvv]; exact hst.1)
        have rd7 := ST.out.rd.kept hst.2 (fun k hk => by cases hk; exact ⟨by omega, by omega⟩)
        have t7 := grown_fresh ST.out.gr hst.2 (fun k hk => by cases hk; exact hg2w.1)
        have hnew : Rows67 (g.set 0 ((rowOf g 0).set 0 1)) := R67.out.set 0 (by simp; omega) (fun x hx => by
          rcases List.mem_or_eq_of_mem_set hx with hx | hx
          · exact (R67.out.2 0 hg1).2 x hx
          · omega)
        have H := Lib.hid (⟨rd7.more (by omega), tm, t7⟩ : TabSt w _ B R a (q + 300) _ _ _)
        have HN := Lib.hid hnew
        clear hnew rd7 t7 tm hst
        go_wp2
        go_ret
        exact ⟨_, _, _, rfl, H.out, HN.out⟩
      · by_cases e1 : y1 = 1
        · subst e1
          go_wp2_with (at_builtin; refine wpList_push hrow3 (by omega) hs3 (h := ?_))
          intro rv2 w4 o4 g4 m4
          rcases id o4.2 with ⟨_, hz⟩ | ⟨g2, cap2, cur2, rfl, _⟩
          · exact absurd hz (by simp)
          rw [← hrvv] at g4 m4
          have hps := OwnTV.pushRow ST.out.tb rfl 0 hg1 _ _ g4 o4 m4
          have hown4 := World.ownsRow.kept ST.out.tb.2.1 g4 (ST.out.tb.2.2.1 0 hg1).2.symm
          have cd : w4.cell? ⟨b, 0, none⟩ = some rv := by
            rw [World.ownsRow.cellAt hown4 0 (by omega), List.getElem?_eq_getElem (by rw [hl3]; exact hg1), ← hrvv, List.getD_eq_getElem?_getD, List.getElem?_eq_getElem (by rw [hl3]; exact hg1)]; rfl
          have fd : w4.frozen? ⟨b, 0, none⟩ = false := hown4.frozenAt 0
          have rd4 := ST.out.rd.kept g4 (fun k hk => by have := (ST.out.tb.lt.2 0 hg1 k hk).1; omega)
          have t4 := grown_fresh ST.out.gr g4 (fun k hk => (ST.out.tb.lt.2 0 hg1 k hk).1)
          have rd5 := rd4.kept hps.2 (fun k hk => by cases hk; omega)
          have t5 := grown_fresh t4 hps.2 (fun k hk => by cases hk; exact hbw.1)
          have hnew : Rows67 (g.set 0 (rowOf g 0 ++ [0])) := R67.out.set 0 (by simp; omega) (fun x hx => by
            rcases List.mem_append.1 hx with hx | hx
            · exact (R67.out.2 0 hg1).2 x hx
            · simp at hx; omega)
          have H := Lib.hid (⟨rd5.more (by omega), hps.1, t5⟩ : TabSt w _ B R a (q + 300) _ _ _)
          have HN := Lib.hid hnew
          clear hnew rd5 t5 rd4 t4 hps hown4 o4 g4 m4
          go_wp2
          go_ret
          have hh := H.out
          first
            | exact ⟨_, _, _, rfl, H.out, HN.out⟩
            | (simp only [List.length_append, List.length_cons, List.length_nil] at hh; exact ⟨_, _, _, rfl, hh, HN.out⟩)
        · by_cases e2 : y1 = 2
          · subst e2
            have hbR : some b ≠ some R := by simp; omega
            rcases id hrow3.2 with ⟨_, hz⟩ | ⟨g2, cap2, cur2, rfl, _⟩
            · exact absurd hz (by omega)
            have hg2w := hrow3.lt g2 rfl
            have hbg : some b ≠ some g2 := by
              rcases hap3 with h | h
              · exact absurd h (by simp [Value.ownBlock])
              · exact fun e => h (by simp [Value.ownBlock]; simpa using e.symm)
            have hgR : (Value.slice (some ⟨g2, 0, none⟩) (rowOf g 0).length cap2).ownBlock ≠ some R := by simp [Value.ownBlock]; omega
            have hbl : Below w3.heap.size w3 (w3.alloc (.cells #[.int .i64 (-1), .int .i64 51] 3)).drew := ((Below.refl w3.heap.size w3).alloc (Nat.le_refl _) _).drew
            have ol := (own_lit w3 w3.heap.size [-1, 51] #[.int .i64 (-1), .int .i64 51] rfl (Nat.le_refl _) (by simp)).below (Below.refl _ _).drew
            have P6 := one_has (.slice (some ⟨w3.heap.size, 0, none⟩) 2 2) [-1, 51] B R a _ _ (ST.out.rd.later hbl) (by omega) ol.ints (by simp [Value.ownBlock]; omega) (by simp) (by simp)
            have HP6 := Lib.hid P6
            clear P6
            have hj : nn - 1 < (rowOf g 0).length := by have := HR0.out; omega
            have m0 : 0 ≤ (nn : Int) - 1 := by omega
            have m1 : (nn : Int) - 1 < ((rowOf g 0).length : Int) := by omega
            have m2 : ((nn : Int) - 1).toNat = nn - 1 := by omega
            have m3 : IntKind.i64.wrap ((nn : Int) - 1) = (nn : Int) - 1 := IntWalk.i64_in _ (by omega)
            go_wp2
            go_region_held3 (fun w' => w'.cell? ⟨b, 0, none⟩ = some (.slice (some ⟨g2, 0, none⟩) (rowOf g 0).length cap2))
              (first | go_keep | exact cn | exact g6.cell ((hbl.cell (p := ⟨b, 0, none⟩) hbw.2).trans cn) hbR | exact (o6.set rfl (nn - 1) y4).2.cell (g6.cell ((hbl.cell (p := ⟨b, 0, none⟩) hbw.2).trans cn) hbR) hbg)
              (first | ((with_reducible refine HP6.out.mono ?_); rintro e w6 ⟨y4, rfl, hy4, h6, g6⟩; have o6 := (hrow3.below hbl).kept g6 (.inr hgR); have cs := o6.cell rfl (nn - 1) hj; have fs := o6.frozen rfl (nn - 1)))
            have st6 := (ST.out.past hRl (grown_below hbl none) (fun k hk => by cases hk)).pick hRl.2 h6 g6
            have hst := o6.set rfl (nn - 1) y4
            have tm := st6.tb.mark hg1 (r := (rowOf g 0).set (nn - 1) y4) (by rw [hrvv]; exact hst.2) (by rw [hrvv]; exact hst.1)
            have rd7 := st6.rd.kept hst.2 (fun k hk => by cases hk; exact ⟨by omega, by omega⟩)
            have t7 := grown_fresh st6.gr hst.2 (fun k hk => by cases hk; exact hg2w.1)
            have hyb : -1 ≤ y4 ∧ y4 ≤ 51 := by
              clear m3
              simp only [List.mem_cons, List.not_mem_nil, or_false] at hy4
              omega
            have hnew : Rows67 (g.set 0 ((rowOf g 0).set (nn - 1) y4)) := R67.out.set 0 (by rw [List.length_set]; clear m3; omega) (fun x hx => by
              rcases List.mem_or_eq_of_mem_set hx with hx | hx
              · exact (R67.out.2 0 hg1).2 x hx
              · subst hx; exact hyb)
            have H := Lib.hid (⟨rd7.more (by clear m3; omega), tm, t7⟩ : TabSt w _ B R a (q + 300) _ _ _)
            have HN := Lib.hid hnew
            clear hnew rd7 t7 tm hst st6 g6 h6 HP6 cs fs o6 m3
            go_wp2
            go_ret
            exact ⟨_, _, _, rfl, H.out, HN.out⟩
          · have f0 : (y1 == 0) = false := by simpa using e0
            have f1 : (y1 == 1) = false := by simpa using e1
            have f2 : (y1 == 2) = false := by simpa using e2
            clear e0 e1 e2
            go_wp2
            go_ret
            exact ⟨_, _, _, rfl, ⟨ST.out.rd.more (by omega), ST.out.tb, ST.out.gr⟩, R67.out⟩

end Go.Proofs.Ytbedjebnllimpaa
