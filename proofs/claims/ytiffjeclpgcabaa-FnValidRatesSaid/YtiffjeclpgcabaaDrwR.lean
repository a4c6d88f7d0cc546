/- Drawn rates of exchange. -/
import Derived.Test.YtiffjeclpgcabaaRaD
import Derived.Test.YtiffjeclpgcabaaPush
import Derived.Test.YtiffjeclpgcabaaCellK
import Derived.IntWalk
import Derived.Deep.CutRange
import Derived.Deep.LoopGhost
import Derived.RegionTactic
import Derived.BigRegion
namespace Go.Proofs.Ytiffjeclpgcabaa
open Go.RowKit

/-- Drawn rates: at most 4 rows, of at most 5 ratios each. -/
def Rows45 (g : List (List (Int × Int))) : Prop := g.length ≤ 4 ∧ ∀ i, i < g.length → (rowR g i).length ≤ 5
theorem Rows45.set {g : List (List (Int × Int))} {r : List (Int × Int)} (h : Rows45 g) (i : Nat) (hl : r.length ≤ 5) : Rows45 (g.set i r) := by
  refine ⟨by rw [List.length_set]; exact h.1, fun j hj => ?_⟩
  rw [List.length_set] at hj
  by_cases e : j = i
  · subst e
    have : rowR (g.set j r) j = r := by simp [rowR, List.getD, hj]
    rw [this]; exact hl
  · have e' : ¬ i = j := fun x => e x.symm
    have : rowR (g.set i r) j = rowR g j := by simp [rowR, List.getD, e']
    rw [this]; exact h.2 j hj

/-- Rows of n ratios each. -/
def RowsNR (n : Nat) (g : List (List (Int × Int))) : Prop := ∀ i, i < g.length → (rowR g i).length = n
theorem RowsNR.snoc {n : Nat} {g : List (List (Int × Int))} {r : List (Int × Int)} (h : RowsNR n g) (hl : r.length = n) : RowsNR n (g ++ [r]) := by
  intro i hi
  by_cases e : i < g.length
  · rw [rowR_snoc_lt e]; exact h i e
  · have e2 : i = g.length := by simp at hi; omega
    subst e2
    rw [rowR_snoc_eq]; exact hl

theorem rowBase {w : World} {B B' n size : Nat} {e : TypeId} {v : Value} {xs : List Value} (h : w.ownsRow B e size v n xs) (hb : B' ≤ B) : w.ownsRow B' e size v n xs := by
  refine ⟨h.1, ?_⟩
  rcases h.2 with hn | ⟨g, cap, cur, hv, hg, rest⟩
  · exact .inl hn
  · exact .inr ⟨g, cap, cur, hv, by omega, rest⟩
theorem OwnTVR.base {w : World} {B B' : Nat} {v : Value} {vs : List Value} {o : List (List (Int × Int))} (h : OwnTVR w B v vs o) (hb : B' ≤ B) : OwnTVR w B' v vs o :=
  ⟨h.1, rowBase h.2.1 hb, fun i hi => ⟨(h.2.2.1 i hi).1.base hb, (h.2.2.1 i hi).2⟩, h.2.2.2⟩

/-- What stands while rates are drawn: the reader, what was left as it was, the worths, the table. -/
structure RtSt (w wr : World) (B R : Nat) (a : Option Addr) (q T0 : Nat) (wv : Value) (xs : List Int) (v : Value) (vs : List Value) (t : List (List (Int × Int))) : Prop where
  rd : HasReader wr B R a q
  gr : w.grownBy wr (some R)
  wo : Own wr w.heap.size wv xs
  wb : ∀ k, wv.ownBlock = some k → k < T0
  tb : OwnTVR wr T0 v vs t
  le : T0 ≤ wr.heap.size

/-- A step that writes the reader, or a block from s on, where s lies past all that stands. -/
theorem RtSt.step {w wr w2 : World} {B R q q' T0 s : Nat} {a : Option Addr} {wv v : Value} {xs : List Int} {vs : List Value} {t : List (List (Int × Int))} {row : Option Nat} (h : RtSt w wr B R a q T0 wv xs v vs t) (hR : B ≤ R ∧ R < w.heap.size) (hT : w.heap.size ≤ T0) (hrd : HasReader w2 B R a q') (hg : wr.grownBy w2 row)
    (hs : T0 ≤ s) (hsv : ∀ k, v.ownBlock = some k → k < s) (hsr : ∀ i, i < t.length → ∀ k, (vs.getD i undef).ownBlock = some k → k < s) (hrow : ∀ k, row = some k → k = R ∨ s ≤ k) : RtSt w w2 B R a q' T0 wv xs v vs t := by
  have ne : ∀ x : Value, (∀ k, x.ownBlock = some k → w.heap.size ≤ k ∧ k < s) → x.ownBlock = none ∨ x.ownBlock ≠ row := fun x hx => by
    cases hb : x.ownBlock with
    | none => exact .inl rfl
    | some k =>
      refine .inr fun e => ?_
      have := hx k hb
      rcases hrow k e.symm with h1 | h1 <;> omega
  refine ⟨hrd, ?_, ?_, h.wb, ?_, Nat.le_trans h.le hg.size⟩
  · refine ⟨hg.os.trans h.gr.os, hg.tape.trans h.gr.tape, hg.output.trans h.gr.output, Nat.le_trans h.gr.size hg.size, fun k hk hne => ?_⟩
    have h1 := h.gr.block k hk hne
    have h2 := h.gr.size
    refine (hg.block k (by omega) (fun e => ?_)).trans h1
    rcases hrow k e.symm with h3 | h3
    · exact hne (by rw [h3])
    · omega
  · exact h.wo.kept hg (ne wv (fun k hk => ⟨(h.wo.lt k hk).1, by have := h.wb k hk; omega⟩))
  · exact h.tb.kept hg (ne v (fun k hk => ⟨by have := (h.tb.lt.1 k hk).1; omega, hsv k hk⟩)) (fun i hi => ne _ (fun k hk => ⟨by have := (h.tb.lt.2 i hi k hk).1; omega, hsr i hi k hk⟩))

theorem grown_set1 (W : World) (c j : Nat) (v : Value) : W.grownBy (W.setCell ⟨c, j, none⟩ v) (some c) :=
  ⟨rfl, rfl, rfl, by simp [World.setCell], fun k _ hne => heap_setCell_other W ⟨c, j, none⟩ k v (fun e => hne (by rw [e]))⟩
theorem grown_set2 (W : World) (c : Nat) (u v : Value) : W.grownBy ((W.setCell ⟨c, 0, none⟩ u).setCell ⟨c, 1, none⟩ v) (some c) := (grown_set1 W c 0 u).trans (grown_set1 _ c 1 v)

theorem IsBoxR.set1 {w : World} {b : Nat} {u d : Int} (h : IsBoxR w b u d) (d' : Int) : IsBoxR (w.setCell ⟨b, 1, none⟩ (.int .i64 d')) b u d' := by
  have h2 := heap_setCell_same w b 1 _ _ (.int .i64 d') h
  unfold IsBoxR
  rw [h2]
  rfl

/-- A draw of the reader. -/
theorem RtSt.pick {w wr w2 : World} {B R q q' T0 : Nat} {a : Option Addr} {wv v : Value} {xs : List Int} {vs : List Value} {t : List (List (Int × Int))} (h : RtSt w wr B R a q T0 wv xs v vs t) (hR : B ≤ R ∧ R < w.heap.size) (hT : w.heap.size ≤ T0) (hrd : HasReader w2 B R a q') (hg : wr.grownBy w2 (some R)) : RtSt w w2 B R a q' T0 wv xs v vs t :=
  h.step hR hT hrd hg h.le (fun k hk => (h.tb.lt.1 k hk).2) (fun i hi k hk => (h.tb.lt.2 i hi k hk).2) (fun k hk => .inl (by cases hk; rfl))

/-- A block past all that stands is written. -/
theorem RtSt.box {w wr w2 : World} {B R q T0 s c : Nat} {a : Option Addr} {wv v : Value} {xs : List Int} {vs : List Value} {t : List (List (Int × Int))} (h : RtSt w wr B R a q T0 wv xs v vs t) (hR : B ≤ R ∧ R < w.heap.size) (hT : w.heap.size ≤ T0) (hg : wr.grownBy w2 (some c)) (hs : T0 ≤ s) (hc : s ≤ c) (hsv : ∀ k, v.ownBlock = some k → k < s) (hsr : ∀ i, i < t.length → ∀ k, (vs.getD i undef).ownBlock = some k → k < s) : RtSt w w2 B R a q T0 wv xs v vs t :=
  h.step hR hT (h.rd.kept hg (fun k hk => by cases hk; exact ⟨by omega, by omega⟩)) hg hs hsv hsr (fun k hk => .inr (by cases hk; exact hc))

theorem RtSt.more {w wr : World} {B R q q' T0 : Nat} {a : Option Addr} {wv v : Value} {xs : List Int} {vs : List Value} {t : List (List (Int × Int))} (h : RtSt w wr B R a q T0 wv xs v vs t) (hq : q ≤ q') : RtSt w wr B R a q' T0 wv xs v vs t := ⟨h.rd.more hq, h.gr, h.wo, h.wb, h.tb, h.le⟩

/-- A row past all that stands is appended to. -/
theorem RtSt.row {w wr w2 : World} {B R q T0 s : Nat} {a : Option Addr} {wv v rv : Value} {xs : List Int} {vs : List Value} {t : List (List (Int × Int))} {ro : List (Int × Int)} (h : RtSt w wr B R a q T0 wv xs v vs t) (hR : B ≤ R ∧ R < w.heap.size) (hT : w.heap.size ≤ T0) (ho : OwnRs wr s rv ro) (hg : wr.grownBy w2 rv.ownBlock) (hs : T0 ≤ s) (hsv : ∀ k, v.ownBlock = some k → k < s) (hsr : ∀ i, i < t.length → ∀ k, (vs.getD i undef).ownBlock = some k → k < s) : RtSt w w2 B R a q T0 wv xs v vs t :=
  h.step hR hT (h.rd.kept hg (fun k hk => by have := (ho.lt k hk).1; exact ⟨by omega, by omega⟩)) hg hs hsv hsr (fun k hk => .inr (ho.lt k hk).1)

/-- A block is made. -/
theorem RtSt.new {w wr w2 : World} {B R q T0 : Nat} {a : Option Addr} {wv v : Value} {xs : List Int} {vs : List Value} {t : List (List (Int × Int))} (h : RtSt w wr B R a q T0 wv xs v vs t) (hR : B ≤ R ∧ R < w.heap.size) (hT : w.heap.size ≤ T0) (hb : Below wr.heap.size wr w2) : RtSt w w2 B R a q T0 wv xs v vs t :=
  h.step hR hT (h.rd.later hb) (grown_below hb none) h.le (fun k hk => (h.tb.lt.1 k hk).2) (fun i hi k hk => (h.tb.lt.2 i hi k hk).2) (fun k hk => by cases hk)

set_option maxRecDepth 100000 in
set_option maxHeartbeats 6400000 in
theorem someRates_any (B R : Nat) (a : Option Addr) (q : Nat) (w : World) (h : HasReader w B R a q) (hq : q ≤ 800000) :
    Calls Try.prog 56 #[.pointer (some ⟨R, 0, none⟩)] w fun e w' => ∃ v vs g, e = .returned v ∧ TabR w w' B R a (q + 300) v vs g ∧ Rows45 g := by
  have hRl := h.lt
  go_enter Try.func56, Try.ntmps56
  go_wp2_with fail
  refine (one_lit [3, 4, 2, 1] _ 4 rfl rfl _ B R a q _ h (by omega) (by simp) (by simp) (by simp)).mono ?_
  rintro e w1 ⟨n, rfl, hn, h1, g1⟩
  have hn4 : 1 ≤ n ∧ n ≤ 4 := by
    simp only [List.mem_cons, List.not_mem_nil, or_false] at hn
    omega
  obtain ⟨nn, rfl⟩ : ∃ nn : Nat, n = nn := ⟨n.toNat, by omega⟩
  have ho0 := own_empty w1 w.heap.size g1.size
  have hg0 : w.grownBy (w1.alloc (.cells #[] 3)) (some R) := g1.trans (World.grownBy_alloc w1 _ _)
  have hr0 := h1.later ((Below.refl w1.heap.size w1).alloc (Nat.le_refl _) (.cells #[] 3))
  clear hn h1 g1
  go_wp2
  go_loopg [4] 4 (fun g v wr => ∃ xs : List Int, xs.length + g = 4 ∧ xs.length ≤ nn ∧ Own wr w.heap.size v xs ∧ HasReader wr B R a (q + 1 + xs.length) ∧ w.grownBy wr (some R) ∧ ∀ x ∈ xs, 1 ≤ x ∧ x ≤ 9)
  case atStart => exact ⟨[], rfl, Nat.zero_le _, ho0, hr0, hg0, fun x hx => by simp at hx⟩
  case round =>
    obtain ⟨xs, hxg, hxn, hown, hrd, hgr, hxb⟩ := hrel
    have HXG := Lib.hid hxg
    have HXB := Lib.hid hxb
    have hx4 : xs.length ≤ 4 := by omega
    obtain ⟨av, cv, rfl, _⟩ := hown.ints
    have hRs : w.heap.size ≤ wr.heap.size := hgr.size
    have hne := hown.neBlock hRl.2
    clear hxg hxb ho0 hg0 hr0
    by_cases hlt : xs.length < nn
    · have hli : (xs.length : Int) < (nn : Int) := by omega
      go_wp2_with fail
      refine (pick_has 9 _ _ a _ _ hrd (by omega) (by omega)).mono ?_
      rintro e w4 ⟨y1, rfl, ⟨r0, r1, _⟩, h4, g4⟩
      have r2 := r1 (by omega)
      have o4 := hown.kept g4 (.inr hne)
      have t4 := hgr.trans g4
      have hs4 : w.heap.size ≤ w4.heap.size := t4.size
      clear r1 hown hrd hgr g4
      go_wp2_with (at_builtin; refine wpList_push o4 (by omega) hs4 (h := ?_))
      intro v6 w6 o6 g6 m6
      have t6 : w.grownBy w6 (some R) := grown_fresh t4 g6 (fun k hk => (o4.lt k hk).1)
      have h6 := h4.kept g6 (fun k hk => by have := (o4.lt k hk).1; omega)
      clear o4 t4 h4 g6 m6
      go_wp2
      cases gk with
      | zero =>
        have := HXG.out
        omega
      | succ g =>
        go_roundg g
        case measure => omega
        case rel => exact ⟨_, by have := HXG.out; simp; omega, by simp; omega, o6, h6.more (by simp; omega), t6, fun x hx => by
          rcases List.mem_append.1 hx with hx | hx
          · exact HXB.out x hx
          · simp at hx; omega⟩
    · have hln : xs.length = nn := by omega
      subst hln
      have hli : ¬ (xs.length : Int) < (xs.length : Int) := by omega
      go_wp2_with fail
      refine (pick_has 3 _ _ a _ _ hrd (by omega) (by omega)).mono ?_
      rintro e w4 ⟨y1, rfl, ⟨r0, r1, _⟩, h4, g4⟩
      have o4 := hown.kept g4 (.inr hne)
      have t4 := hgr.trans g4
      clear r1 hown hrd hgr g4
      rcases id o4.2 with ⟨_, hz⟩ | ⟨gw, cw, curw, hsh, _⟩
      · exact absurd hz (by omega)
      simp only [Value.slice.injEq, true_and] at hsh
      obtain ⟨rfl, rfl⟩ := hsh
      have hT : w.heap.size ≤ w4.heap.size := t4.size
      have bE := (Below.refl w4.heap.size w4).alloc (Nat.le_refl _) (.cells #[] 26)
      have st0 : RtSt w (w4.alloc (.cells #[] 26)) B R a (q + 10) w4.heap.size (sl gw xs.length cv) xs (.slice (some ⟨w4.heap.size, 0, none⟩) 0 0) [] [] :=
        ⟨(h4.more (by omega)).later bE, t4.trans (World.grownBy_alloc w4 _ _), o4.below bE, fun k hk => (o4.lt k hk).2, ownTR_empty w4 _ (Nat.le_refl _), bE.size⟩
      clear o4 t4 h4 bE r0
      go_wp2
      generalize (y1 == 0) = fr at *
      go_loopw [6, 7, 8, 9, 10] (fun v s _ _ _ wr => ∃ i vs g, i ≤ xs.length ∧ s = .int .i64 (i : Nat) ∧ g.length = i ∧ RtSt w wr B R a (q + 10 + 40 * i) w4.heap.size (sl gw xs.length cv) xs v vs g ∧ RowsNR xs.length g) (fun _ s _ _ _ _ => xs.length - (intOf s).toNat)
      case atStart => exact ⟨0, [], [], Nat.zero_le _, rfl, rfl, st0, fun i hi => absurd hi (Nat.not_lt_zero _)⟩
      case round =>
        obtain ⟨i, vs, g, hi, rfl, hlg, hst, hrn⟩ := hrel
        rename World => wo
        have HLG := Lib.hid hlg
        have HRN := Lib.hid hrn
        have hg4 : g.length ≤ 4 := by omega
        obtain ⟨ag, cg, rfl, _⟩ := hst.tb.table.grid
        have hRs : w.heap.size ≤ wo.heap.size := hst.gr.size
        have hRo : R < wo.heap.size := by have := hRl.2; omega
        clear st0 hlg hrn
        by_cases hlt : i < xs.length
        · have i1 : (i : Int) < (xs.length : Int) := by omega
          have tl := hst.tb.lt
          have hTo := hst.le
          have or0 := own_emptyRs wo wo.heap.size (Nat.le_refl _)
          have stE := hst.step hRl hT (hst.rd.later ((Below.refl wo.heap.size wo).alloc (Nat.le_refl _) (.cells #[] 31))) (World.grownBy_alloc wo _ none) hst.le (fun k hk => (tl.1 k hk).2) (fun i hi k hk => (tl.2 i hi k hk).2) (fun k hk => by cases hk)
          have hleE : wo.heap.size ≤ (wo.alloc (.cells #[] 31)).heap.size := ((Below.refl wo.heap.size wo).alloc (Nat.le_refl _) _).size
          clear hst
          go_wp2
          go_loopw [8, 9, 10] (fun rv s _ wx => ∃ (k : Nat) (ro : List (Int × Int)), k ≤ xs.length ∧ s = .int .i64 k ∧ ro.length = k ∧ RtSt w wx B R a (q + 10 + 40 * i + 3 * k) w4.heap.size (sl gw xs.length cv) xs (.slice ag g.length cg) vs g ∧ OwnRs wx wo.heap.size rv ro ∧ wo.heap.size ≤ wx.heap.size) (fun _ s _ _ => xs.length - (intOf s).toNat)
          case atStart => exact ⟨0, [], Nat.zero_le _, rfl, rfl, stE, or0, hleE⟩
          case round =>
            obtain ⟨k, ro, hk, rfl, hrl, hsx, hox, hle⟩ := hrel
            rename World => wi
            have HRL := Lib.hid hrl
            obtain ⟨ar, cr, rfl, _⟩ := hox.rs
            have hne := hox.neBlock hRo
            clear hrl stE or0 hleE
            by_cases hlx : k < xs.length
            · have k1 : (k : Int) < (xs.length : Int) := by omega
              have c0 := hsx.wo.cell rfl i hlt
              have c1 := hsx.wo.cell rfl k hlx
              have hgw := hsx.wb gw rfl
              have hle0 : w4.heap.size ≤ wi.heap.size := hsx.le
              go_wp2_with fail
              have SD : Hid (wi.drew.cell? ⟨gw, i, none⟩ = some (.int .i64 (xs.getD i 0)) ∧ wi.drew.cell? ⟨gw, k, none⟩ = some (.int .i64 (xs.getD k 0))) := ⟨c0, c1⟩
              have SAD : Hid (∀ o : Obj, (wi.alloc o).drew.cell? ⟨gw, i, none⟩ = some (.int .i64 (xs.getD i 0)) ∧ (wi.alloc o).drew.cell? ⟨gw, k, none⟩ = some (.int .i64 (xs.getD k 0))) := fun o => ⟨cell_alloc c0, cell_alloc c1⟩
              go_region_held3 (fun w' => w'.cell? ⟨gw, i, none⟩ = some (.int .i64 (xs.getD i 0)) ∧ w'.cell? ⟨gw, k, none⟩ = some (.int .i64 (xs.getD k 0)))
                (first | with_reducible exact SD.out | with_reducible exact SAD.out _)
                (fail)
              have tx := hsx.tb.lt
              have hlo := hox.lt
              have hTo2 : w4.heap.size ≤ wi.heap.size := hsx.le
              have hRi : R < wi.heap.size := by omega
              have hcR : wi.heap.size ≠ R := by omega
              have bW : Below wi.heap.size wi (wi.alloc (.cells #[.int .i64 xs[i], .int .i64 xs[k]] 31)).drew := ((Below.refl _ _).alloc (Nat.le_refl _) _).drew
              have bx : IsBoxR (wi.alloc (.cells #[.int .i64 xs[i], .int .i64 xs[k]] 31)).drew wi.heap.size xs[i] xs[k] := IsBoxR.new wi _ _
              have st1 := hsx.new hRl hT bW
              have ox1 := hox.below bW
              have hzi := HXB.out _ (List.getElem_mem hlt)
              have hzk := HXB.out _ (List.getElem_mem hlx)
              have HV : Hid (∀ k, (Value.slice ag g.length cg).ownBlock = some k → k < wi.heap.size) := fun k hk => (tx.1 k hk).2
              have HVS : Hid (∀ i, i < g.length → ∀ k, (vs.getD i undef).ownBlock = some k → k < wi.heap.size) := fun i hi k hk => (tx.2 i hi k hk).2
              have HRO : Hid ((Value.slice ar ro.length cr).ownBlock ≠ some wi.heap.size) := fun e => by have := (hlo _ e).2; omega
              clear hsx hox SD SAD c0 c1 tx hlo bW
              generalize (wi.alloc (.cells #[.int .i64 xs[i], .int .i64 xs[k]] 31)).drew = W at *
              generalize xs[i] = zi at *
              generalize xs[k] = zk at *
              go_upto_if 49 with (fail)
              go_cut [] from 50 to 63 (fun wx => ∃ u v, IsBoxR wx wi.heap.size u v ∧ RtSt w wx B R a (q + 10 + 40 * i + 3 * k + 2) w4.heap.size (sl gw xs.length cv) xs (.slice ag g.length cg) vs g ∧ OwnRs wx wo.heap.size (.slice ar ro.length cr) ro)
              case first =>
                cases fr
                case true =>
                  go_wp2_with fail
                  refine (pick_has 6 B R a _ _ st1.rd (by omega) (by omega)).mono ?_
                  rintro e w5 ⟨y2, rfl, ⟨p0, p1, _⟩, h5, g5⟩
                  have p2 := p1 (by omega)
                  have st2 := st1.pick hRl hT h5 g5
                  have ox2 := ox1.kept g5 (.inr hne)
                  have bx2 := bx.kept g5 (by simp; omega)
                  clear p1 st1 ox1 bx h5 g5
                  go_wp2_with fail
                  refine (pick_has 6 B R a _ _ st2.rd (by omega) (by omega)).mono ?_
                  rintro e w6 ⟨y3, rfl, ⟨r0, r1, _⟩, h6, g6⟩
                  have r2 := r1 (by omega)
                  have st3 := st2.pick hRl hT h6 g6
                  have ox3 := ox2.kept g6 (.inr hne)
                  have bx3 := bx2.kept g6 (by simp; omega)
                  have f0 := bx3.cells.2 0
                  have f1 := bx3.cells.2 1
                  have e0 := bx3.cells.1.1
                  have e1 := bx3.cells.1.2
                  have XS := Lib.hid (fun u d => bx3.set u d)
                  have HS := Lib.hid (fun u d => (st3.box hRl hT (grown_set2 w6 wi.heap.size (.int .i64 u) (.int .i64 d)) hTo2 (Nat.le_refl _) HV.out HVS.out))
                  have HO := Lib.hid (fun u d => ox3.kept (grown_set2 w6 wi.heap.size (.int .i64 u) (.int .i64 d)) (.inr HRO.out))
                  clear r1 st2 ox2 bx2 h6 g6 st3 ox3 bx3
                  go_wp2_with fail
                  go_meet
                  exact ⟨_, _, XS.out _ _, (HS.out _ _).more (by omega), HO.out _ _⟩
                case false =>
                  go_wp2_with fail
                  refine (pick_has 3 B R a _ _ st1.rd (by omega) (by omega)).mono ?_
                  rintro e w5 ⟨y2, rfl, _, h5, g5⟩
                  have st2 := st1.pick hRl hT h5 g5
                  have ox2 := ox1.kept g5 (.inr hne)
                  have bx2 := bx.kept g5 (by simp; omega)
                  clear st1 ox1 bx h5 g5
                  by_cases h20 : y2 = 0
                  · subst h20
                    have f1 := bx2.cells.2 1
                    have e0 := bx2.cells.1.1
                    have e1 := bx2.cells.1.2
                    have XS := Lib.hid (fun d => bx2.set1 d)
                    have HS := Lib.hid (fun d => (st2.box hRl hT (grown_set1 w5 wi.heap.size 1 (.int .i64 d)) hTo2 (Nat.le_refl _) HV.out HVS.out))
                    have HO := Lib.hid (fun d => ox2.kept (grown_set1 w5 wi.heap.size 1 (.int .i64 d)) (.inr HRO.out))
                    clear st2 ox2 bx2
                    go_wp2_with fail
                    go_meet
                    exact ⟨_, _, XS.out _, (HS.out _).more (by omega), HO.out _⟩
                  · have h2b : (y2 == 0) = false := by simpa using h20
                    go_wp2_with fail
                    go_meet
                    exact ⟨_, _, bx2, st2.more (by omega), ox2⟩
              case rest =>
                obtain ⟨zu, zd, bx, st, ox⟩ := hcut
                have hci := bx.lt
                have hTo2 : w4.heap.size ≤ wi.heap.size := hle0
                have HVo : Hid (∀ k, (Value.slice ag g.length cg).ownBlock = some k → k < wo.heap.size) := fun k hk => (tl.1 k hk).2
                have HVSo : Hid (∀ i, i < g.length → ∀ k, (vs.getD i undef).ownBlock = some k → k < wo.heap.size) := fun i hi k hk => (tl.2 i hi k hk).2
                have hr4 : ro.length ≤ 4 := by have := HRL.out; omega
                have hoc : wo.heap.size ≤ wc.heap.size := by omega
                clear st1 ox1 hzi hzk tl
                by_cases hik : i = k
                · have hie : ((i : Int) == (k : Int)) = true := by simp [hik]
                  clear hik
                  have f0 := bx.cells.2 0
                  have f1 := bx.cells.2 1
                  have c0 := bx.cells.1.1
                  have c1 := bx.cells.1.2
                  have st2 := st.box hRl hT (grown_set2 wc wi.heap.size (.int .i64 1) (.int .i64 1)) hTo2 (Nat.le_refl _) HV.out HVS.out
                  have ox2 := ox.kept (grown_set2 wc wi.heap.size (.int .i64 1) (.int .i64 1)) (.inr HRO.out)
                  have hoc2 : wo.heap.size ≤ ((wc.setCell ⟨wi.heap.size, 0, none⟩ (.int .i64 1)).setCell ⟨wi.heap.size, 1, none⟩ (.int .i64 1)).heap.size := Nat.le_trans hoc (grown_set2 wc wi.heap.size (.int .i64 1) (.int .i64 1)).size
                  have bx2 := bx.set 1 1
                  clear st ox bx hoc
                  go_upto_region 21 with (fail)
                  generalize (wc.setCell ⟨wi.heap.size, 0, none⟩ (.int .i64 1)).setCell ⟨wi.heap.size, 1, none⟩ (.int .i64 1) = W2 at *
                  have j0 := bx2.cells.1.1
                  have j1 := bx2.cells.1.2
                  clear f0 f1 c0 c1
                  go_wp2_with (at_builtin; refine wpList_pushRs ox2 (by omega) hoc2 (h := ?_))
                  intro v7 w7 o7 g7 m7
                  have st := st2
                  have ox := ox2
                  have bx := True.intro
                  have hs7 : wo.heap.size ≤ w7.heap.size := Nat.le_trans hoc2 g7.size
                  clear st2 ox2
                  have st9 := st.row hRl hT ox g7 hTo HVo.out HVSo.out
                  clear st ox bx g7 m7
                  go_wp2
                  go_roundw
                  case rel => exact ⟨k + 1, _, by omega, by go_num, by have := HRL.out; simp; omega, st9.more (by omega), o7, hs7⟩
                  case measure => simp [intOf]; omega
                · have hie : ((i : Int) == (k : Int)) = false := by simp; omega
                  clear hik
                  have c0 := bx.cells.1.1
                  have c1 := bx.cells.1.2
                  go_wp2_with (at_builtin; refine wpList_pushRs ox (by omega) hoc (h := ?_))
                  intro v7 w7 o7 g7 m7
                  have hs7 : wo.heap.size ≤ w7.heap.size := Nat.le_trans hoc g7.size
                  have st9 := st.row hRl hT ox g7 hTo HVo.out HVSo.out
                  clear st ox bx g7 m7
                  go_wp2
                  go_roundw
                  case rel => exact ⟨k + 1, _, by omega, by go_num, by have := HRL.out; simp; omega, st9.more (by omega), o7, hs7⟩
                  case measure => simp [intOf]; omega
            · have hke : k = xs.length := by omega
              have hap : apartB (.slice ar ro.length cr) (.slice ag g.length cg) := (apartB_of (fun k hk => (tl.1 k hk).2) (fun k hk => (hox.lt k hk).1)).symm
              have hrs : ∀ j, j < g.length → apartB (vs.getD j undef) (.slice ar ro.length cr) := fun j hj => apartB_of (fun k hk => (tl.2 j hj k hk).2) (fun k hk => (hox.lt k hk).1)
              have hs6 : w4.heap.size ≤ wi.heap.size := hsx.le
              have HAP := Lib.hid hap
              have HRS := Lib.hid hrs
              have hke2 : ¬ (k : Int) < (xs.length : Int) := by omega
              clear hke hap hrs
              go_wp2_with (at_builtin; refine wpList_pushTR hsx.tb (hox.base hTo) HAP.out HRS.out rfl (by omega) hs6 (h := ?_))
              intro nv w5 v5 g5 m5
              have tb1 : ∀ k, (Value.slice ag g.length cg).ownBlock = some k → w4.heap.size ≤ k := fun k hk => (tl.1 k hk).1
              have h5 := hsx.rd.kept g5 (fun k hk => by have := tb1 k hk; exact ⟨by omega, by omega⟩)
              have t5 : w.grownBy w5 (some R) := grown_fresh hsx.gr g5 (fun k hk => by have := tb1 k hk; omega)
              have wo5 := hsx.wo.kept g5 (.inr (fun e => by have := tb1 gw e.symm; have := hsx.wb gw rfl; omega))
              have st5 : RtSt w w5 B R a (q + 10 + 40 * (i + 1)) w4.heap.size (sl gw xs.length cv) xs nv (vs ++ [.slice ar ro.length cr]) (g ++ [ro]) := ⟨h5.more (by omega), t5, wo5, hsx.wb, v5, Nat.le_trans hsx.le g5.size⟩
              have HRT := Lib.hid (show ro.length = xs.length by have := HRL.out; omega)
              clear v5 hsx hox g5 m5 tl h5 t5 wo5 tb1
              go_wp2
              go_roundw
              case rel => exact ⟨i + 1, _, _, by omega, by go_num, by have := HLG.out; simp; omega, st5, HRN.out.snoc HRT.out⟩
              case measure => simp [intOf]; omega
        · have hie : i = xs.length := by omega
          have hg1 : 0 < g.length := by have := HLG.out; omega
          have hgi : (0 : Int) < (g.length : Int) := by omega
          have hgn : g ≠ [] := fun e => by rw [e] at hg1; exact absurd hg1 (by decide)
          have R45 : Hid (Rows45 g) := ⟨hg4, fun i hi => by have := HRN.out i hi; omega⟩
          have hrl0 : (rowR g 0).length = xs.length := HRN.out 0 hg1
          have hr0 : 0 < (rowR g 0).length := by omega
          have hr0i : (0 : Int) < ((rowR g 0).length : Int) := by omega
          have hr0n : rowR g 0 ≠ [] := fun e => by rw [e] at hr0; exact absurd hr0 (by decide)
          have hr4 : (rowR g 0).length ≤ 4 := by omega
          have HR0 := Lib.hid hrl0
          have hni : ¬ (i : Int) < (xs.length : Int) := by omega
          clear hrl0 hie
          go_wp2_with fail
          refine (pick_has 30 B R a _ _ hst.rd (by omega) (by omega)).mono ?_
          rintro e w5 ⟨y2, rfl, _, h5, g5⟩
          have st5 := hst.pick hRl hT (h5.more (show q + 10 + 40 * i + 1 ≤ q + 290 by omega)) g5
          have hs5 : w4.heap.size ≤ w5.heap.size := st5.le
          have hl5 := st5.tb.1
          clear hst h5 g5
          rcases id st5.tb.2.1.2 with ⟨_, hz⟩ | ⟨b, cap, cur, hsh, _⟩
          · exact absurd hz (by omega)
          simp only [Value.slice.injEq, true_and] at hsh
          obtain ⟨rfl, rfl⟩ := hsh
          have cn := World.ownsRow.cellAt st5.tb.2.1 0 (by omega)
          rw [show vs[0]? = some (vs.getD 0 undef) by rw [List.getD_eq_getElem?_getD, List.getElem?_eq_getElem (by rw [hl5]; exact hg1)]; rfl] at cn
          have hrow5 := (st5.tb.2.2.1 0 hg1).1
          have hap5 := (st5.tb.2.2.1 0 hg1).2
          generalize hrvv : vs.getD 0 undef = rv at *
          have ST := Lib.hid st5
          clear st5
          have hbw := ST.out.tb.lt.1 b rfl
          by_cases e0 : y2 = 0
          · subst e0
            obtain ⟨g2, cap2, rfl, hg2a, hg2b⟩ := hrow5.form hr0
            have ca := hrow5.atR rfl 0 hr0
            have f0 : w5.frozen? ⟨g2, 0, none⟩ = false := by have := ca.2.1; rwa [Nat.zero_mul] at this
            have c0 : w5.cell? ⟨g2, 0, none⟩ = some (.int .i64 (rUp (rowR g 0) 0)) := by have := ca.1.1; rwa [Nat.zero_mul] at this
            have hst := hrow5.setUp rfl 0 hr0 2
            rw [Nat.zero_mul] at hst
            have tm := ST.out.tb.mark hg1 (r := (rowR g 0).set 0 (2, rDn (rowR g 0) 0)) (by rw [hrvv]; exact hst.2) (by rw [hrvv]; exact hst.1)
            have rd7 := ST.out.rd.kept hst.2 (fun k hk => by cases hk; exact ⟨by omega, by omega⟩)
            have t7 := grown_fresh ST.out.gr hst.2 (fun k hk => by cases hk; omega)
            have hnew : Rows45 (g.set 0 ((rowR g 0).set 0 (2, rDn (rowR g 0) 0))) := R45.out.set 0 (by rw [List.length_set]; omega)
            have H := Lib.hid (And.intro (TabR.mk (rd7.more (show _ ≤ q + 300 by omega)) (tm.base hT) t7) hnew)
            clear hnew rd7 t7 tm hst ca
            go_wp2
            go_ret
            exact ⟨_, _, _, rfl, H.out⟩
          · by_cases e1 : y2 = 1
            · subst e1
              go_wp2_with (at_builtin; refine wpList_pushRs hrow5 (by omega) hs5 (h := ?_))
              intro rv2 w6 o6 g6 m6
              obtain ⟨g2, cap2, rfl, _, _⟩ := o6.form (by simp)
              rw [← hrvv] at g6 m6
              have hps := OwnTVR.pushRow ST.out.tb rfl 0 hg1 _ _ g6 o6 m6
              have hown6 := World.ownsRow.kept ST.out.tb.2.1 g6 (ST.out.tb.2.2.1 0 hg1).2.symm
              have cd : w6.cell? ⟨b, 0, none⟩ = some rv := by
                rw [World.ownsRow.cellAt hown6 0 (by omega), List.getElem?_eq_getElem (by rw [hl5]; exact hg1), ← hrvv, List.getD_eq_getElem?_getD, List.getElem?_eq_getElem (by rw [hl5]; exact hg1)]; rfl
              have fd : w6.frozen? ⟨b, 0, none⟩ = false := hown6.frozenAt 0
              have rd4 := ST.out.rd.kept g6 (fun k hk => by have := (ST.out.tb.lt.2 0 hg1 k hk).1; exact ⟨by omega, by omega⟩)
              have t4 := grown_fresh ST.out.gr g6 (fun k hk => by have := (ST.out.tb.lt.2 0 hg1 k hk).1; omega)
              have rd5 := rd4.kept hps.2 (fun k hk => by cases hk; exact ⟨by omega, by omega⟩)
              have t5 := grown_fresh t4 hps.2 (fun k hk => by cases hk; omega)
              have hnew : Rows45 (g.set 0 (rowR g 0 ++ [(1, 1)])) := R45.out.set 0 (by simp; omega)
              have H := Lib.hid (And.intro (TabR.mk (rd5.more (show _ ≤ q + 300 by omega)) (hps.1.base hT) t5) hnew)
              clear hnew rd5 t5 rd4 t4 hps hown6 o6 g6 m6
              go_wp2
              go_ret
              have hh := H.out
              first
                | exact ⟨_, _, _, rfl, H.out⟩
                | (simp only [List.length_append, List.length_cons, List.length_nil] at hh; exact ⟨_, _, _, rfl, hh⟩)
            · by_cases e2 : y2 = 2
              · subst e2
                have hbR : some b ≠ some R := by simp; omega
                obtain ⟨g2, cap2, rfl, hg2a, hg2b⟩ := hrow5.form hr0
                have hbg : some b ≠ some g2 := by
                  rcases hap5 with h | h
                  · exact absurd h (by simp [Value.ownBlock])
                  · exact fun e => h (by simp [Value.ownBlock]; simpa using e.symm)
                have hgR : (Value.slice (some ⟨g2, 0, none⟩) (rowR g 0).length cap2).ownBlock ≠ some R := by simp [Value.ownBlock]; omega
                have hbl : Below w5.heap.size w5 (w5.alloc (.cells #[.int .i64 0, .int .i64 21] 3)).drew := ((Below.refl w5.heap.size w5).alloc (Nat.le_refl _) _).drew
                have ol := (own_lit w5 w5.heap.size [0, 21] #[.int .i64 0, .int .i64 21] rfl (Nat.le_refl _) (by simp)).below (Below.refl _ _).drew
                have P6 := one_has (.slice (some ⟨w5.heap.size, 0, none⟩) 2 2) [0, 21] B R a _ _ (ST.out.rd.later hbl) (by omega) ol.ints (by simp [Value.ownBlock]; omega) (by simp) (by simp)
                have HP6 := Lib.hid P6
                clear P6
                have hj : xs.length - 1 < (rowR g 0).length := by have := HR0.out; omega
                have m0 : 0 ≤ (xs.length : Int) - 1 := by omega
                have m1 : (xs.length : Int) - 1 < ((rowR g 0).length : Int) := by omega
                have m2 : ((xs.length : Int) - 1).toNat = xs.length - 1 := by omega
                have m3 : IntKind.i64.wrap ((xs.length : Int) - 1) = (xs.length : Int) - 1 := IntWalk.i64_in _ (by omega)
                go_wp2
                go_region_held3 (fun w' => w'.cell? ⟨b, 0, none⟩ = some (.slice (some ⟨g2, 0, none⟩) (rowR g 0).length cap2))
                  (first | go_keep | exact cn | exact g6.cell ((hbl.cell (p := ⟨b, 0, none⟩) hbw.2).trans cn) hbR | exact (o6.setDn rfl (xs.length - 1) hj y4).2.cell (g6.cell ((hbl.cell (p := ⟨b, 0, none⟩) hbw.2).trans cn) hbR) hbg)
                  (first | ((with_reducible refine HP6.out.mono ?_); rintro e w6 ⟨y4, rfl, hy4, h6, g6⟩; have o6 := (hrow5.below hbl).kept g6 (.inr hgR); have cs := (o6.atR rfl (xs.length - 1) hj).1.2; have fs := (o6.atR rfl (xs.length - 1) hj).2.2))
                have st6 := (ST.out.new hRl hT hbl).pick hRl hT h6 g6
                have hst := o6.setDn rfl (xs.length - 1) hj y4
                have tm := st6.tb.mark hg1 (r := (rowR g 0).set (xs.length - 1) (rUp (rowR g 0) (xs.length - 1), y4)) (by rw [hrvv]; exact hst.2) (by rw [hrvv]; exact hst.1)
                have rd7 := st6.rd.kept hst.2 (fun k hk => by cases hk; exact ⟨by omega, by omega⟩)
                have t7 := grown_fresh st6.gr hst.2 (fun k hk => by cases hk; omega)
                have hnew : Rows45 (g.set 0 ((rowR g 0).set (xs.length - 1) (rUp (rowR g 0) (xs.length - 1), y4))) := R45.out.set 0 (by rw [List.length_set]; clear m3; omega)
                have H := Lib.hid (And.intro (TabR.mk (rd7.more (show _ ≤ q + 300 by clear m3; omega)) (tm.base hT) t7) hnew)
                clear hnew rd7 t7 tm hst st6 g6 h6 HP6 cs fs o6 m3
                go_wp2
                go_ret
                exact ⟨_, _, _, rfl, H.out⟩
              · have f0 : (y2 == 0) = false := by simpa using e0
                have f1 : (y2 == 1) = false := by simpa using e1
                have f2 : (y2 == 2) = false := by simpa using e2
                have H := Lib.hid (And.intro (TabR.mk (ST.out.rd.more (show _ ≤ q + 300 by omega)) (ST.out.tb.base hT) ST.out.gr) R45.out)
                clear e0 e1 e2
                go_wp2
                go_ret
                exact ⟨_, _, _, rfl, H.out⟩

end Go.Proofs.Ytiffjeclpgcabaa
