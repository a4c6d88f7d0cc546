/- Drawn tables. -/
import Derived.Test.YtlibfmbbchhjeaaReadH
import Derived.Test.YtlibfmbbchhjeaaSO
import Derived.Deep.RegionHeld3
namespace Go.Proofs.Ytlibfmbbchhjeaa
open Go.RowKit

/-- Drawn rows: at most 3, of at most 6 numbers from -1 to 51. -/
def Rows36 (g : List (List Int)) : Prop := g.length ≤ 3 ∧ ∀ i, i < g.length → (rowOf g i).length ≤ 6 ∧ ∀ x ∈ rowOf g i, -1 ≤ x ∧ x ≤ 51

/-- Rows of n numbers each. -/
def RowsN (n : Nat) (g : List (List Int)) : Prop := ∀ i, i < g.length → (rowOf g i).length = n ∧ ∀ x ∈ rowOf g i, 0 ≤ x ∧ x ≤ 50

theorem RowsN.snoc {n : Nat} {g : List (List Int)} {r : List Int} (h : RowsN n g) (hl : r.length = n) (hr : ∀ x ∈ r, 0 ≤ x ∧ x ≤ 50) : RowsN n (g ++ [r]) := by
  intro i hi
  by_cases e : i < g.length
  · rw [rowOf_snoc_lt e]; exact h i e
  · have e2 : i = g.length := by simp at hi; omega
    subst e2
    rw [rowOf_snoc_eq]; exact ⟨hl, hr⟩

theorem RowsN.rows {n : Nat} {g : List (List Int)} (h : RowsN n g) (hn : n ≤ 3) (hl : g.length ≤ 3) : Rows36 g :=
  ⟨hl, fun i hi => ⟨by have := (h i hi).1; omega, fun x hx => by have := (h i hi).2 x hx; omega⟩⟩

theorem Rows36.set {g : List (List Int)} {r : List Int} (h : Rows36 g) (i : Nat) (hl : r.length ≤ 6) (hr : ∀ x ∈ r, -1 ≤ x ∧ x ≤ 51) : Rows36 (g.set i r) := by
  refine ⟨by rw [List.length_set]; exact h.1, fun j hj => ?_⟩
  rw [List.length_set] at hj
  by_cases e : j = i
  · subst e
    have : rowOf (g.set j r) j = r := by simp [rowOf, List.getD, hj]
    rw [this]; exact ⟨hl, hr⟩
  · have e' : ¬ i = j := fun x => e x.symm
    have : rowOf (g.set i r) j = rowOf g j := by simp [rowOf, List.getD, e']
    rw [this]; exact h.2 j hj

/-- What stands while a table is drawn: the reader, the table, and what has been left as it was. -/
structure TabSt (w w' : World) (B R : Nat) (a : Option Addr) (q : Nat) (v : Value) (vs : List Value) (g : List (List Int)) : Prop where
  rd : HasReader w' B R a q
  tb : OwnTV w' w.heap.size v vs g
  gr : w.grownBy w' (some R)

theorem OwnTV.pastR {w : World} {B R : Nat} {v : Value} {vs : List Value} {g : List (List Int)} (h : OwnTV w B v vs g) (hR : R < B) : (v.ownBlock = none ∨ v.ownBlock ≠ some R) ∧ ∀ i, i < g.length → (vs.getD i undef).ownBlock = none ∨ (vs.getD i undef).ownBlock ≠ some R :=
  ⟨.inr fun e => by have := (h.lt.1 R e).1; omega, fun i hi => .inr fun e => by have := (h.lt.2 i hi R e).1; omega⟩

theorem TabSt.pick {w w' w2 : World} {B R q q' : Nat} {a : Option Addr} {v : Value} {vs : List Value} {g : List (List Int)} (h : TabSt w w' B R a q v vs g) (hR : R < w.heap.size) (hr : HasReader w2 B R a q') (hg : w'.grownBy w2 (some R)) : TabSt w w2 B R a q' v vs g :=
  ⟨hr, h.tb.kept hg (h.tb.pastR hR).1 (h.tb.pastR hR).2, h.gr.trans hg⟩

/-- A block made or written that is none of the table's. -/
theorem TabSt.past {w w' w2 : World} {B R q : Nat} {a : Option Addr} {v : Value} {vs : List Value} {g : List (List Int)} {row : Option Nat} (h : TabSt w w' B R a q v vs g) (hR : B ≤ R ∧ R < w.heap.size) (hg : w'.grownBy w2 row) (hrow : ∀ k, row = some k → w.heap.size ≤ k ∧ v.ownBlock ≠ some k ∧ ∀ i, i < g.length → (vs.getD i undef).ownBlock ≠ some k) : TabSt w w2 B R a q v vs g := by
  refine ⟨h.rd.kept hg (fun k hk => by have := (hrow k hk).1; omega), h.tb.kept hg ?_ ?_, grown_fresh h.gr hg (fun k hk => (hrow k hk).1)⟩
  · cases row with
    | none => cases hv : v.ownBlock <;> simp
    | some k => exact .inr (hrow k rfl).2.1
  · intro i hi
    cases row with
    | none => cases hv : (vs.getD i undef).ownBlock <;> simp
    | some k => exact .inr ((hrow k rfl).2.2 i hi)

set_option maxRecDepth 100000 in
set_option maxHeartbeats 6400000 in
theorem someGrid_any (B R : Nat) (a : Option Addr) (q : Nat) (w : World) (h : HasReader w B R a q) (hq : q ≤ 800000) :
    Calls Try.prog 69 #[.pointer (some ⟨R, 0, none⟩)] w fun e w' => ∃ v vs g, e = .returned v ∧ TabSt w w' B R a (q + 100) v vs g ∧ Rows36 g := by
  have hRl := h.lt
  have ho0 := ownTV_empty w w.heap.size (Nat.le_refl _)
  have g0 := World.grownBy_alloc w (.cells #[] 23) none
  have hb0 : Below w.heap.size w (w.alloc (.cells #[] 23)) := (Below.refl _ _).alloc (Nat.le_refl _) _
  have st0 : TabSt w (w.alloc (.cells #[] 23)) B R a q (.slice (some ⟨w.heap.size, 0, none⟩) 0 0) [] [] := ⟨h.later hb0, ho0, World.grownBy_alloc w _ _⟩
  clear ho0 g0 hb0
  go_enter Try.func69, Try.ntmps69
  go_wp2_with fail
  refine (one_lit [3, 2, 3, 1] _ 4 rfl rfl _ B R a q _ st0.rd (by omega) (by simp) (by simp) (by simp)).mono ?_
  rintro e w1 ⟨n, rfl, hn, h1, g1⟩
  have hn3 : 1 ≤ n ∧ n ≤ 3 := by
    simp only [List.mem_cons, List.not_mem_nil, or_false] at hn
    omega
  obtain ⟨nn, rfl⟩ : ∃ nn : Nat, n = nn := ⟨n.toNat, by omega⟩
  have st1 := st0.pick hRl.2 h1 g1
  clear hn st0 h1 g1
  go_wp2_with fail
  refine (one_lit [3, 2, 3, 1] _ 4 rfl rfl _ B R a _ _ st1.rd (by omega) (by simp) (by simp) rfl).mono ?_
  rintro e w2 ⟨m, rfl, hm, h2, g2⟩
  have hm3 : 1 ≤ m ∧ m ≤ 3 := by
    simp only [List.mem_cons, List.not_mem_nil, or_false] at hm
    omega
  have st2 := st1.pick hRl.2 h2 g2
  clear hm st1 h2 g2
  go_wp2
  go_loopg [3, 6] 3 (fun gh v _ wr => ∃ vs g, g.length + gh = 3 ∧ TabSt w wr B R a (q + 2 + 10 * g.length) v vs g ∧ RowsN nn g)
  case atStart => exact ⟨[], [], rfl, st2.rd.more (by omega) |> fun x => ⟨x, st2.tb, st2.gr⟩, fun i hi => absurd hi (Nat.not_lt_zero _)⟩
  case round =>
    obtain ⟨vs, g, hlg, hst, hrn⟩ := hrel
    rename World => wo
    have HLG := Lib.hid hlg
    have HRN := Lib.hid hrn
    have hg3 : g.length ≤ 3 := by omega
    obtain ⟨ag, cg, rfl, _⟩ := hst.tb.table.grid
    have hRs : w.heap.size ≤ wo.heap.size := hst.gr.size
    have hRo : R < wo.heap.size := by have := hRl.2; omega
    clear st2 hlg hrn
    by_cases hlt : (g.length : Int) < m
    · cases gk with
      | zero => have := HLG.out; omega
      | succ gO =>
      have tl := hst.tb.lt
      have stE := hst.past hRl (World.grownBy_alloc wo (.cells #[] 3) none) (fun k hk => by cases hk)
      have oe := own_empty wo wo.heap.size (Nat.le_refl _)
      clear hst
      go_wp2
      go_loopg [6] 3 (fun gi rv wx => ∃ xs : List Int, xs.length + gi = 3 ∧ xs.length ≤ nn ∧ TabSt w wx B R a (q + 2 + 10 * g.length + 3 * xs.length) (.slice ag g.length cg) vs g ∧ Own wx wo.heap.size rv xs ∧ (∀ x ∈ xs, 0 ≤ x ∧ x ≤ 50) ∧ wo.heap.size ≤ wx.heap.size)
      case atStart => exact ⟨[], rfl, Nat.zero_le _, stE, oe, by simp, by simp⟩
      case round =>
        obtain ⟨xs, hxl, hxn, hsx, hox, hxb, hsi⟩ := hrel
        rename World => wi
        have HXL := Lib.hid hxl
        have HXB := Lib.hid hxb
        have hx3 : xs.length ≤ 3 := by omega
        obtain ⟨ax, cx, rfl, _⟩ := hox.ints
        have hne := hox.neBlock hRo
        clear hxl hxb stE oe
        by_cases hlx : (xs.length : Int) < (nn : Int)
        · go_wp2_with fail
          refine (pick_has 51 B R a _ _ hsx.rd (by omega) (by omega)).mono ?_
          rintro e w3 ⟨y1, rfl, ⟨p0, p1, _⟩, h3, g3⟩
          have p2 := p1 (by omega)
          have st3 := hsx.pick hRl.2 h3 g3
          have o3 := hox.kept g3 (.inr hne)
          have hs3 : wo.heap.size ≤ w3.heap.size := Nat.le_trans hsi g3.size
          clear p1 hsx hox h3 g3
          go_wp2_with fail
          refine (pick_has 13 B R a _ _ st3.rd (by omega) (by omega)).mono ?_
          rintro e w4 ⟨y2, rfl, ⟨r0, r1, _⟩, h4, g4⟩
          have r2 := r1 (by omega)
          have st4 := st3.pick hRl.2 h4 g4
          have o4 := o3.kept g4 (.inr hne)
          have hs4 : wo.heap.size ≤ w4.heap.size := Nat.le_trans hs3 g4.size
          clear r1 st3 o3 h4 g4
          go_wp2_with fail
          refine (one_lit [y1, y2, 0] _ 3 rfl rfl _ B R a _ _ st4.rd (by omega) (by simp) (by simp) rfl).mono ?_
          rintro e w5 ⟨y, rfl, hy, h5, g5⟩
          have hyb : 0 ≤ y ∧ y ≤ 50 := by
            simp only [List.mem_cons, List.not_mem_nil, or_false] at hy
            omega
          have st5 := st4.pick hRl.2 h5 g5
          have o5 := o4.kept g5 (.inr hne)
          have hs5 : wo.heap.size ≤ w5.heap.size := Nat.le_trans hs4 g5.size
          clear st4 o4 h5 g5 hy p0 p2 r0 r2
          go_wp2_with (at_builtin; refine wpList_push o5 (by omega) hs5 (h := ?_))
          intro v6 w6 o6 g6 m6
          have st6 := st5.past hRl g6 (fun k hk => by
            have hk2 := (o5.lt k hk).1
            exact ⟨by omega, fun e => by have := (tl.1 k e).2; omega, fun i hi e => by have := (tl.2 i hi k e).2; omega⟩)
          have hs6 : wo.heap.size ≤ w6.heap.size := Nat.le_trans hs5 g6.size
          clear st5 o5 g6 m6
          go_wp2
          cases gk with
          | zero =>
            have := HXL.out
            omega
          | succ gi =>
            go_roundg gi
            case measure => omega
            case rel => exact ⟨_, by have := HXL.out; simp; omega, by simp; omega, ⟨st6.rd.more (by simp; omega), st6.tb, st6.gr⟩, o6, (fun x hx => by
              rcases List.mem_append.1 hx with hx | hx
              · exact HXB.out x hx
              · simp at hx; subst hx; exact hyb), hs6⟩
        · have hxe : xs.length = nn := by omega
          have HXE := Lib.hid hxe
          have hap : apartB (.slice ax xs.length cx) (.slice ag g.length cg) := (apartB_of (fun k hk => (tl.1 k hk).2) (fun k hk => (hox.lt k hk).1)).symm
          have hrs : ∀ j, j < g.length → apartB (vs.getD j undef) (.slice ax xs.length cx) := fun j hj => apartB_of (fun k hk => (tl.2 j hj k hk).2) (fun k hk => (hox.lt k hk).1)
          have hs6 : w.heap.size ≤ wi.heap.size := hsx.gr.size
          clear hxe
          go_wp2_with (at_builtin; refine wpList_pushT hsx.tb (hox.base hRs) hap hrs rfl (by omega) hs6 (h := ?_))
          intro nv w5 v5 g5 m5
          have h5 := hsx.rd.kept g5 (fun k hk => by have := (tl.1 k hk).1; omega)
          have t5 : w.grownBy w5 (some R) := grown_fresh hsx.gr g5 (fun k hk => (tl.1 k hk).1)
          have V5 := Lib.hid v5
          clear v5 hap hrs hsx hox g5 m5 tl
          go_wp2
          go_roundg gO
          case measure => omega
          case rel => exact ⟨_, _, by have := HLG.out; simp; omega, ⟨h5.more (by simp; omega), V5.out, t5⟩, HRN.out.snoc HXE.out HXB.out⟩
    · have hg1 : 0 < g.length := by omega
      have hgi : (0 : Int) < (g.length : Int) := by omega
      have R36 := Lib.hid (HRN.out.rows (by omega) hg3)
      have hr0 : 0 < (rowOf g 0).length := by have := (HRN.out 0 hg1).1; omega
      have hr0i : (0 : Int) < ((rowOf g 0).length : Int) := by omega
      have hr3 : (rowOf g 0).length ≤ 3 := by have := (HRN.out 0 hg1).1; omega
      go_wp2_with fail
      refine (pick_has 30 B R a _ _ hst.rd (by omega) (by omega)).mono ?_
      rintro e w3 ⟨y1, rfl, ⟨p0, p1, _⟩, h3, g3⟩
      have p2 := p1 (by omega)
      have st3 := hst.pick hRl.2 (h3.more (show q + 2 + 10 * g.length + 1 ≤ q + 99 by omega)) g3
      have hs3 : w.heap.size ≤ w3.heap.size := st3.gr.size
      have hl3 := st3.tb.1
      clear p1 hst h3 g3
      rcases id st3.tb.2.1.2 with ⟨_, hz⟩ | ⟨b, cap, cur, hsh, _⟩
      · exact absurd hz (by omega)
      simp only [Value.slice.injEq, true_and] at hsh
      obtain ⟨rfl, rfl⟩ := hsh
      have cn := World.ownsRow.cellAt st3.tb.2.1 0 (by omega)
      rw [show vs[0]? = some (vs.getD 0 undef) by rw [List.getD_eq_getElem?_getD, List.getElem?_eq_getElem (by rw [hl3]; exact hg1)]; rfl] at cn
      have hrow3 := (st3.tb.2.2.1 0 hg1).1
      generalize hrvv : vs.getD 0 undef = rv at *
      have ST := Lib.hid st3
      clear st3
      by_cases e0 : y1 = 0
      · subst e0
        have hb1 : Below w3.heap.size w3 (w3.alloc (.cells #[.int .i64 1, .int .i64 1, .int .i64 1] 3)) := (Below.refl _ _).alloc (Nat.le_refl _) _
        have stA := ST.out.past hRl (World.grownBy_alloc w3 (.cells #[.int .i64 1, .int .i64 1, .int .i64 1] 3) none) (fun k hk => by cases hk)
        have ol := own_lit w3 w3.heap.size [1, 1, 1] #[.int .i64 1, .int .i64 1, .int .i64 1] rfl (Nat.le_refl _) (by simp)
        have hrA := hrow3.below hb1
        have hsA : w.heap.size ≤ (w3.alloc (.cells #[.int .i64 1, .int .i64 1, .int .i64 1] 3)).heap.size := stA.gr.size
        have hbw : w.heap.size ≤ b := (ST.out.tb.lt.1 b rfl).1
        go_wp2_with (at_builtin; refine wpList_spread hrA ol.ints (by simp) (by simp; omega) hsA (h := ?_))
        intro rv2 w4 o4 g4 m4
        rcases id o4.2 with ⟨_, hz⟩ | ⟨g2, cap2, cur2, rfl, _⟩
        · exact absurd hz (by simp)
        rw [← hrvv] at g4 m4
        have hps := OwnTV.pushRow stA.tb rfl 0 hg1 _ _ g4 o4 m4
        have hown4 := World.ownsRow.kept stA.tb.2.1 g4 (stA.tb.2.2.1 0 hg1).2.symm
        have cd : w4.cell? ⟨b, 0, none⟩ = some rv := by
          rw [World.ownsRow.cellAt hown4 0 (by omega), List.getElem?_eq_getElem (by rw [hl3]; exact hg1), ← hrvv, List.getD_eq_getElem?_getD, List.getElem?_eq_getElem (by rw [hl3]; exact hg1)]; rfl
        have fd : w4.frozen? ⟨b, 0, none⟩ = false := hown4.frozenAt 0
        have rd4 := stA.rd.kept g4 (fun k hk => by have := (stA.tb.lt.2 0 hg1 k hk).1; omega)
        have t4 := grown_fresh stA.gr g4 (fun k hk => (stA.tb.lt.2 0 hg1 k hk).1)
        have rd5 := rd4.kept hps.2 (fun k hk => by cases hk; omega)
        have t5 := grown_fresh t4 hps.2 (fun k hk => by cases hk; exact hbw)
        have hnew : Rows36 (g.set 0 (rowOf g 0 ++ [1, 1, 1])) := R36.out.set 0 (by simp; omega) (fun x hx => by
          rcases List.mem_append.1 hx with hx | hx
          · exact (R36.out.2 0 hg1).2 x hx
          · simp at hx; omega)
        have H := Lib.hid (⟨rd5.more (by omega), hps.1, t5⟩ : TabSt w _ B R a (q + 100) _ _ _)
        have HN := Lib.hid hnew
        clear hnew rd5 t5 rd4 t4 hps hown4 stA o4 g4 m4 hrA ol
        go_wp2
        go_ret
        have hh := H.out
        first
          | exact ⟨_, _, _, rfl, H.out, HN.out⟩
          | (simp only [List.length_append, List.length_cons, List.length_nil] at hh; exact ⟨_, _, _, rfl, hh, HN.out⟩)
      · by_cases e1 : y1 = 1
        · subst e1
          have hbw := ST.out.tb.lt.1 b rfl
          have hbR : some b ≠ some R := by simp; omega
          rcases id hrow3.2 with ⟨_, hz⟩ | ⟨g2, cap2, cur2, rfl, _⟩
          · exact absurd hz (by omega)
          have hg2w := hrow3.lt g2 rfl
          have hbg : some b ≠ some g2 := by
            have h := (ST.out.tb.2.2.1 0 hg1).2
            rw [hrvv] at h
            rcases h with h | h
            · exact absurd h (by simp [Value.ownBlock])
            · exact fun e => h (by simp [Value.ownBlock]; simpa using e.symm)
          have hgR : (Value.slice (some ⟨g2, 0, none⟩) (rowOf g 0).length cap2).ownBlock ≠ some R := by simp [Value.ownBlock]; omega
          have hbl : Below w3.heap.size w3 (w3.alloc (.cells #[.int .i64 (-1), .int .i64 51] 3)).drew := ((Below.refl w3.heap.size w3).alloc (Nat.le_refl _) _).drew
          have ol := (own_lit w3 w3.heap.size [-1, 51] #[.int .i64 (-1), .int .i64 51] rfl (Nat.le_refl _) (by simp)).below (Below.refl _ _).drew
          have P6 := one_has (.slice (some ⟨w3.heap.size, 0, none⟩) 2 2) [-1, 51] B R a _ _ (ST.out.rd.later hbl) (by omega) ol.ints (by simp [Value.ownBlock]; omega) (by simp) (by simp)
          have HP6 := Lib.hid P6
          clear P6
          have c0 : w3.cell? ⟨g2, 0, none⟩ = some (.int .i64 ((rowOf g 0).getD 0 0)) := hrow3.cell rfl 0 hr0
          generalize (rowOf g 0).getD 0 0 = x0 at c0
          go_wp2
          go_region_held3 (fun w' => w'.cell? ⟨b, 0, none⟩ = some (.slice (some ⟨g2, 0, none⟩) (rowOf g 0).length cap2))
            (first | go_keep | exact cn | exact g6.cell ((hbl.cell (p := ⟨b, 0, none⟩) hbw.2).trans cn) hbR | exact (o6.set rfl 0 y4).2.cell (g6.cell ((hbl.cell (p := ⟨b, 0, none⟩) hbw.2).trans cn) hbR) hbg)
            (first | ((with_reducible refine HP6.out.mono ?_); rintro e w6 ⟨y4, rfl, hy4, h6, g6⟩; have o6 := (hrow3.below hbl).kept g6 (.inr hgR); have cs := o6.cell rfl 0 hr0; have fs := o6.frozen rfl 0))
          have st6 := (ST.out.past hRl (grown_below hbl none) (fun k hk => by cases hk)).pick hRl.2 h6 g6
          have hst := o6.set rfl 0 y4
          have hb6 : w.heap.size ≤ g2 := hg2w.1
          have tm := st6.tb.mark hg1 (r := (rowOf g 0).set 0 y4) (by rw [hrvv]; exact hst.2) (by rw [hrvv]; exact hst.1)
          have rd7 := st6.rd.kept hst.2 (fun k hk => by cases hk; exact ⟨by omega, by omega⟩)
          have t7 := grown_fresh st6.gr hst.2 (fun k hk => by cases hk; exact hb6)
          have hyb : -1 ≤ y4 ∧ y4 ≤ 51 := by
            simp only [List.mem_cons, List.not_mem_nil, or_false] at hy4
            omega
          have hnew : Rows36 (g.set 0 ((rowOf g 0).set 0 y4)) := R36.out.set 0 (by simp; omega) (fun x hx => by
            rcases List.mem_or_eq_of_mem_set hx with hx | hx
            · exact (R36.out.2 0 hg1).2 x hx
            · subst hx; exact hyb)
          have H := Lib.hid (⟨rd7.more (by omega), tm, t7⟩ : TabSt w _ B R a (q + 100) _ _ _)
          have HN := Lib.hid hnew
          clear hnew rd7 t7 tm hst st6 g6 h6 HP6 cs fs o6
          go_wp2
          go_ret
          exact ⟨_, _, _, rfl, H.out, HN.out⟩
        · by_cases e2 : y1 = 2
          · subst e2
            have oe := ownTV_empty w3 w.heap.size hs3
            have he : w3.grownBy (w3.alloc (.cells #[] 23)) none := World.grownBy_alloc w3 _ none
            have S2 : Hid (TabSt w (w3.alloc (.cells #[] 23)) B R a (q + 99) (.slice (some ⟨w3.heap.size, 0, none⟩) 0 0) [] []) := ⟨ST.out.rd.kept he (fun k hk => by cases hk), oe, ST.out.gr.trans (World.grownBy_alloc w3 _ _)⟩
            clear oe he
            go_wp2
            go_ret
            exact ⟨_, _, _, rfl, ⟨S2.out.rd.more (by omega), S2.out.tb, S2.out.gr⟩, by simp, fun i hi => absurd hi (Nat.not_lt_zero _)⟩
          · have f0 : (y1 == 0) = false := by simpa using e0
            have f1 : (y1 == 1) = false := by simpa using e1
            have f2 : (y1 == 2) = false := by simpa using e2
            clear e0 e1 e2
            go_wp2
            go_ret
            exact ⟨_, _, _, rfl, ⟨ST.out.rd.more (by omega), ST.out.tb, ST.out.gr⟩, R36.out⟩

end Go.Proofs.Ytlibfmbbchhjeaa
