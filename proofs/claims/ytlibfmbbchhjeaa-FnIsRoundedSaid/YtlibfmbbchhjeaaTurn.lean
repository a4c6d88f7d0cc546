/- turned: a table with rows as columns. -/
import Derived.Test.YtlibfmbbchhjeaaTabM
import Derived.Test.YtlibfmbbchhjeaaSO
namespace Go.Proofs.Ytlibfmbbchhjeaa

section
open Go.RowKit

/-- The column k as a row. -/
def colL (g : List (List Int)) (k : Nat) : List Int := (List.range g.length).map fun i => cellOf g i k
/-- The table with rows as columns. -/
def turnL (g : List (List Int)) : List (List Int) := (List.range (rowOf g 0).length).map (colL g)

theorem colL_len (g : List (List Int)) (k : Nat) : (colL g k).length = g.length := by simp [colL]
theorem turnL_len (g : List (List Int)) : (turnL g).length = (rowOf g 0).length := by simp [turnL]
theorem colL_at (g : List (List Int)) (k i : Nat) (hi : i < g.length) : (colL g k).getD i 0 = cellOf g i k := by simp [colL, List.getD, hi]
theorem turnL_row (g : List (List Int)) (k : Nat) (hk : k < (rowOf g 0).length) : rowOf (turnL g) k = colL g k := by
  show ((List.range (rowOf g 0).length).map (colL g)).getD k [] = colL g k
  rw [List.getD_eq_getElem?_getD, List.getElem?_map, List.getElem?_range hk]
  rfl
theorem turnL_cell (g : List (List Int)) (k i : Nat) (hk : k < (rowOf g 0).length) (hi : i < g.length) : cellOf (turnL g) k i = cellOf g i k := by
  unfold cellOf
  rw [turnL_row g k hk, colL_at g k i hi]
  rfl

def sumN (f : Nat → Int) : Nat → Int
  | 0 => 0
  | n + 1 => sumN f n + f n

theorem sumN_congr {f f' : Nat → Int} : ∀ n, (∀ i, i < n → f i = f' i) → sumN f n = sumN f' n
  | 0, _ => rfl
  | n + 1, h => by rw [sumN, sumN, sumN_congr n (fun i hi => h i (by omega)), h n (by omega)]

theorem sumN_add (f f' : Nat → Int) : ∀ n, sumN (fun i => f i + f' i) n = sumN f n + sumN f' n
  | 0 => rfl
  | n + 1 => by rw [sumN, sumN, sumN, sumN_add f f' n]; omega

theorem sumN_zero : ∀ n, sumN (fun _ => 0) n = 0
  | 0 => rfl
  | n + 1 => by rw [sumN, sumN_zero n]; rfl

theorem sumN_swap (f : Nat → Nat → Int) (m : Nat) : ∀ n, sumN (fun i => sumN (fun k => f i k) m) n = sumN (fun k => sumN (fun i => f i k) n) m
  | 0 => by
    simp only [sumN]
    exact (sumN_zero m).symm
  | n + 1 => by
    rw [sumN, sumN_swap f m n, ← sumN_add]
    rfl

theorem tot_take_sum (xs : List Int) : ∀ n, n ≤ xs.length → tot (xs.take n) = sumN (fun i => xs.getD i 0) n
  | 0, _ => by simp [tot, sumN]
  | n + 1, h => by
    rw [tot_take_succ xs n (by omega), tot_take_sum xs n (by omega), sumN]
    simp [List.getD, show n < xs.length by omega]

theorem tot_sum (xs : List Int) : tot xs = sumN (fun i => xs.getD i 0) xs.length := by
  have := tot_take_sum xs xs.length (Nat.le_refl _)
  rwa [List.take_length] at this

theorem tot_row (g : List (List Int)) (i : Nat) : tot (rowOf g i) = sumN (cellOf g i) (rowOf g i).length := tot_sum _

theorem colS_sum (g : List (List Int)) (k : Nat) : ∀ n, colS g k n = sumN (fun i => cellOf g i k) n
  | 0 => rfl
  | n + 1 => by rw [colS, sumN, colS_sum g k n]

theorem allS_sum (g : List (List Int)) : ∀ n, allS g n = sumN (fun i => tot (rowOf g i)) n
  | 0 => rfl
  | n + 1 => by rw [allS, sumN, allS_sum g n]

/-- A table of n rows of m numbers each. -/
def Rect (g : List (List Int)) (n m : Nat) : Prop := g.length = n ∧ ∀ i, i < n → (rowOf g i).length = m

section
variable {g : List (List Int)} {n m : Nat}

theorem Rect.turn (h : Rect g n m) (hn : 0 < n) : Rect (turnL g) m n := by
  have h0 := h.2 0 hn
  refine ⟨by rw [turnL_len, h0], fun k hk => ?_⟩
  rw [turnL_row g k (by rw [h0]; exact hk), colL_len, h.1]

theorem Rect.cell (h : Rect g n m) (hn : 0 < n) {i k : Nat} (hi : i < n) (hk : k < m) : cellOf (turnL g) k i = cellOf g i k :=
  turnL_cell g k i (by rw [h.2 0 hn]; exact hk) (by rw [h.1]; exact hi)

theorem Rect.row_turn (h : Rect g n m) (hn : 0 < n) {k : Nat} (hk : k < m) : tot (rowOf (turnL g) k) = colS g k n := by
  rw [tot_row, (h.turn hn).2 k hk, colS_sum]
  exact sumN_congr n fun i hi => h.cell hn hi hk

theorem Rect.col_turn (h : Rect g n m) (hn : 0 < n) {i : Nat} (hi : i < n) : colS (turnL g) i m = tot (rowOf g i) := by
  rw [tot_row, h.2 i hi, colS_sum]
  exact sumN_congr m fun k hk => h.cell hn hi hk

theorem Rect.all_turn (h : Rect g n m) (hn : 0 < n) : allS (turnL g) m = allS g n := by
  rw [allS_sum, allS_sum, sumN_congr m (fun k hk => h.row_turn hn hk), sumN_congr n (fun i hi => show tot (rowOf g i) = sumN (fun k => cellOf g i k) m by rw [tot_row, h.2 i hi]), sumN_swap (fun i k => cellOf g i k) m n]
  exact sumN_congr m fun k _ => colS_sum g k n

end

theorem vGrid_rect {g : List (List Int)} {u : Int} (h : vGrid g u = true) : Rect g g.length (rowOf g 0).length :=
  ⟨rfl, fun i hi => (((vGrid_iff g u).1 h).2.2 i hi).1⟩

theorem vGrid_turn {g : List (List Int)} {u : Int} (h : vGrid g u = true) : vGrid (turnL g) u = true := by
  have hr := vGrid_rect h
  obtain ⟨h1, h2, h3⟩ := (vGrid_iff g u).1 h
  have hm := (h3 0 (by omega)).2.1
  have ht := hr.turn (by omega)
  refine (vGrid_iff _ u).2 ⟨by rw [turnL_len]; omega, h2, fun k hk => ?_⟩
  rw [turnL_len] at hk
  rw [ht.2 k hk, ht.2 0 (by omega)]
  refine ⟨rfl, h1, fun i hi => ?_⟩
  rw [hr.cell (by omega) hi hk]
  exact (h3 i hi).2.2 k (by rw [(h3 i hi).1]; exact hk)

theorem roundS_iff {g o : List (List Int)} {u : Int} {n m : Nat} (h1 : vGrid g u = true) (hg : Rect g n m) (ho : Rect o n m) (hn : 0 < n) : roundS g u o = true ↔
    (∀ i, i < n → ∀ k, k < m → nearB (cellOf o i k) (cellOf g i k) u = true) ∧ (∀ i, i < n → nearB (tot (rowOf o i)) (tot (rowOf g i)) u = true) ∧ (∀ k, k < m → nearB (colS o k n) (colS g k n) u = true) ∧ nearB (allS o n) (allS g n) u = true := by
  have h0 := hg.2 0 hn
  simp only [roundS, rowNear, fitsB, h1, hg.1, ho.1, h0, Bool.true_and, Bool.and_eq_true, List.all_eq_true, List.mem_range, decide_eq_true_eq]
  constructor
  · rintro ⟨⟨_, ha⟩, ⟨hb, hc⟩, hd⟩
    exact ⟨fun i hi k hk => (ha i hi).2 k hk, hb, hc, hd⟩
  · rintro ⟨ha, hb, hc, hd⟩
    exact ⟨⟨trivial, fun i hi => ⟨ho.2 i hi, ha i hi⟩⟩, ⟨hb, hc⟩, hd⟩

/-- A table is rounded exactly if it is turned round. -/
theorem roundS_turn {g o : List (List Int)} {u : Int} (h1 : vGrid g u = true) (ho : Rect o g.length (rowOf g 0).length) : roundS (turnL g) u (turnL o) = roundS g u o := by
  have hg := vGrid_rect h1
  obtain ⟨hv1, _, hv3⟩ := (vGrid_iff g u).1 h1
  have hn : 0 < g.length := by omega
  have hm : 0 < (rowOf g 0).length := by have := (hv3 0 hn).2.1; omega
  generalize hnn : g.length = n at *
  generalize hmm : (rowOf g 0).length = m at *
  rw [Bool.eq_iff_iff, roundS_iff (vGrid_turn h1) (hg.turn hn) (ho.turn hn) hm, roundS_iff h1 hg ho hn]
  rw [hg.all_turn hn, ho.all_turn hn]
  constructor
  · rintro ⟨ha, hb, hc, hd⟩
    refine ⟨fun i hi k hk => ?_, fun i hi => ?_, fun k hk => ?_, hd⟩
    · have := ha k hk i hi
      rwa [hg.cell hn hi hk, ho.cell hn hi hk] at this
    · have := hc i hi
      rwa [hg.col_turn hn hi, ho.col_turn hn hi] at this
    · have := hb k hk
      rwa [hg.row_turn hn hk, ho.row_turn hn hk] at this
  · rintro ⟨ha, hb, hc, hd⟩
    refine ⟨fun k hk i hi => ?_, fun k hk => ?_, fun i hi => ?_, hd⟩
    · rw [hg.cell hn hi hk, ho.cell hn hi hk]; exact ha i hi k hk
    · rw [hg.row_turn hn hk, ho.row_turn hn hk]; exact hc k hk
    · rw [hg.col_turn hn hi, ho.col_turn hn hi]; exact hb i hi

end

open Go.RowKit

theorem colL_take (g : List (List Int)) (k i : Nat) (hi : i < g.length) : (colL g k).take (i + 1) = (colL g k).take i ++ [cellOf g i k] := by
  have hl : i < (colL g k).length := by rw [colL_len]; exact hi
  rw [List.take_succ_eq_append_getElem hl, ← colL_at g k i hi]
  simp [List.getD, hl]

set_option maxRecDepth 100000 in
set_option maxHeartbeats 3200000 in
theorem turned_any (v : Value) (g : List (List Int)) (n m : Nat) (w : World) (hv : IsGrid w v g) (hg : Rect g n m) (hn : 0 < n) (hn3 : n ≤ 1048576) (hm3 : m ≤ 1048576) :
    Calls Try.prog 38 #[v] w fun e w' => ∃ v', e = .returned v' ∧ IsGrid w' v' (turnL g) ∧ Below w.heap.size w w' := by
  have h0 := hg.2 0 hn
  have hln := hg.1
  have HGR := Lib.hid hg
  have HV := Lib.hid hv
  obtain ⟨a, cap, rfl, _⟩ := id hv
  obtain ⟨b, off, ar, cr, rfl, c0, _⟩ := hv.row 0 (by omega)
  have hgl : g.length ≤ 1048576 := by omega
  have HLN := Lib.hid hln
  have HL0 := Lib.hid h0
  have ilen : (0 : Int) < (g.length : Int) := by omega
  have HC := Lib.hid c0
  have hs0 : b < w.heap.size := World.block_lt_of_cell? w _ c0
  have he : (turnL g).length = m := by rw [turnL_len, h0]
  have HE := Lib.hid he
  clear hv hg h0 hln c0 he
  go_enter Try.func38, Try.ntmps38
  go_wp2
  go_loopw [3, 4, 5, 6] (fun tv kv _ _ wr => ∃ kk : Nat, kk ≤ m ∧ kv = .int .i64 kk ∧ (∃ vs, OwnTV wr w.heap.size tv vs ((turnL g).take kk)) ∧ Below w.heap.size w wr) (fun _ kv _ _ _ => m - (intOf kv).toNat)
  case atStart => exact ⟨0, Nat.zero_le _, rfl, ⟨[], by simpa using ownTV_empty w _ (Nat.le_refl _)⟩, (Below.refl _ _).alloc (Nat.le_refl _) _⟩
  case round =>
    obtain ⟨kk, hk, rfl, ⟨vs, hvs⟩, hbl⟩ := hrel
    rename World => wo
    have cw : wo.cell? ⟨b, off, none⟩ = some (.slice ar (rowOf g 0).length cr) := by
      have := (hbl.cell (p := ⟨b, off + 0, none⟩) hs0).trans HC.out
      rwa [Nat.add_zero] at this
    have hRs : w.heap.size ≤ wo.heap.size := hbl.size
    have kl := HL0.out
    by_cases hlt : kk < m
    · have kl2 : (kk : Int) < ((rowOf g 0).length : Int) := by omega
      have tl := hvs.lt
      have tlen : ((turnL g).take kk).length = kk := by rw [List.length_take, HE.out]; omega
      have TL := Lib.hid tlen
      have tab0 := hvs.below (show Below wo.heap.size wo (wo.alloc (.cells #[] 3)) from (Below.refl _ _).alloc (Nat.le_refl _) _)
      have oe := own_empty wo wo.heap.size (Nat.le_refl _)
      have hb1 : Below w.heap.size w (wo.alloc (.cells #[] 3)) := hbl.alloc hRs _
      have HVS := Lib.hid tab0
      clear hvs tab0 kl tlen
      go_wp2
      go_loopw [5, 6] (fun rv iv wx => ∃ ii : Nat, ii ≤ g.length ∧ iv = .int .i64 ii ∧ Own wx wo.heap.size rv ((colL g kk).take ii) ∧ OwnTV wx w.heap.size u3 vs ((turnL g).take kk) ∧ Below w.heap.size w wx ∧ wo.heap.size ≤ wx.heap.size) (fun _ iv _ => g.length - (intOf iv).toNat)
      case atStart => exact ⟨0, Nat.zero_le _, rfl, by simpa using oe, HVS.out, hb1, by simp⟩
      case round =>
        obtain ⟨ii, hi, rfl, hox, htx, hbx, hsx⟩ := hrel
        rename World => wi
        have xl : ((colL g kk).take ii).length = ii := by rw [List.length_take, colL_len]; omega
        clear oe hb1
        by_cases hli : ii < g.length
        · have i1 : (ii : Int) < (g.length : Int) := by omega
          obtain ⟨bp, fp, ap, cp, ep, ci, hrow⟩ := (HV.out.below hbx).row ii hli
          simp only [Option.some.injEq, Addr.mk.injEq, and_true] at ep
          obtain ⟨rfl, rfl⟩ := ep
          have hrl : (rowOf g ii).length = m := HGR.out.2 ii (by have := HLN.out; omega)
          obtain ⟨b2, f2, rfl, cx⟩ := hrow kk (by omega)
          have kl3 : (kk : Int) < ((rowOf g ii).length : Int) := by omega
          have HT := Lib.hid htx
          have XL := Lib.hid xl
          have hxl : ((colL g kk).take ii).length ≤ 1048576 := by have := HLN.out; omega
          have hsw : w.heap.size ≤ wi.heap.size := by omega
          clear hrow hrl htx xl
          go_wp2_with (at_builtin; refine wpList_push hox hxl hsx (h := ?_))
          intro rv2 w4 o4 g4 m4
          rw [← colL_take g kk ii hli] at o4
          have t4 := HT.out.kept g4 (by
            cases hb : (u5 : Value).ownBlock with
            | none => cases hv : (u3 : Value).ownBlock <;> simp
            | some k => exact .inr fun e => by have := (tl.1 k e).2; have := (hox.lt k hb).1; omega) (fun j hj => by
            cases hb : (u5 : Value).ownBlock with
            | none => cases hv : (vs.getD j undef).ownBlock <;> simp
            | some k => exact .inr fun e => by have := (tl.2 j hj k e).2; have := (hox.lt k hb).1; omega)
          have b4 : Below w.heap.size w w4 := hbx.trans (below_grown g4 hsw (fun k hk => by have := (hox.lt k hk).1; omega))
          have s4 : wo.heap.size ≤ w4.heap.size := Nat.le_trans hsx g4.size
          have H4 := Lib.hid o4
          have T4 := Lib.hid t4
          clear o4 t4 g4 m4 hox hbx
          go_wp2
          go_roundw
          case rel => exact ⟨ii + 1, by omega, by go_num, H4.out, T4.out, b4, s4⟩
          case measure => simp [intOf]; omega
        · have hie : ii = g.length := by omega
          subst hie
          rw [List.take_of_length_le (by rw [colL_len]; exact Nat.le_refl _)] at hox
          obtain ⟨ax, cx, rfl, _⟩ := id hox.ints
          have hap : apartB (.slice ax (colL g kk).length cx) u3 := (apartB_of (fun k hk => (tl.1 k hk).2) (fun k hk => (hox.lt k hk).1)).symm
          have hrs : ∀ j, j < ((turnL g).take kk).length → apartB (vs.getD j undef) (.slice ax (colL g kk).length cx) := fun j hj => apartB_of (fun k hk => (tl.2 j hj k hk).2) (fun k hk => (hox.lt k hk).1)
          have hsw : w.heap.size ≤ wi.heap.size := by omega
          have hlk : ((turnL g).take kk).length ≤ 1048576 := by have := TL.out; omega
          clear xl
          go_wp2_with (at_builtin; refine wpList_pushT htx (hox.base hRs) hap hrs rfl hlk hsw (h := ?_))
          intro nv w5 v5 g5 m5
          have hrw : colL g kk = rowOf (turnL g) kk := (turnL_row g kk (by rw [HL0.out]; exact hlt)).symm
          rw [hrw, ← take_row (by rw [HE.out]; exact hlt)] at v5
          have b5 : Below w.heap.size w w5 := hbx.trans (below_grown g5 hsw (fun k hk => (tl.1 k hk).1))
          have V5 := Lib.hid v5
          clear v5 g5 m5 hrw hap hrs htx hox hbx
          go_wp2
          go_roundw
          case rel => exact ⟨kk + 1, by omega, by go_num, ⟨_, V5.out⟩, b5⟩
          case measure => simp [intOf]; omega
    · have hke : kk = m := by omega
      subst hke
      rw [List.take_of_length_le (by rw [HE.out]; exact Nat.le_refl _)] at hvs
      have G := Lib.hid hvs.table.grid
      clear hvs
      go_wp2
      go_ret
      exact ⟨_, rfl, G.out, hbl⟩

end Go.Proofs.Ytlibfmbbchhjeaa
