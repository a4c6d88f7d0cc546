/- Appending to, reading and writing slices of ints of the call's own: laws for the walks. Tables of amounts that are filled from below. WaysOf in the model. SplitEven, in the program and in its model. What may be shared, and shares by rounded sums, in the program and in its model. Plain mathematics of shares by the largest rests: who is ahead of whom, and that picking the greatest again and again picks those of the least ranks. Shares by the largest rests, in the model. The fewest coins, in the model. FewestCoins and GreedyCoins, in the model. Slices of strings that a call makes itself (made out of the texts on slices of ints). The greedy way, in the model. FewestCoins and GreedyCoins, in the model. The reader of codes by which arguments are drawn: contracts of its methods. -/
import Derived.Test.YtpenbkfchgeafaaGreatDoorQOwnB
import Derived.Maps.AppendAt
import Derived.Test.YtpenbkfchgeafaaGreatDoorQNum
import Derived.Laws.BitsAllLaws
import Derived.Laws.BitsLemmas
import Derived.IntWalk
import Derived.Outline
namespace Go.Proofs.YtpenbkfchgeafaaGreatDoor
open Go.RowKit

/-- The value of a slice of n ints at the head of block g. -/
abbrev sl (g n cap : Nat) : Value := .slice (some ⟨g, 0, none⟩) n cap

theorem own_made {w0 : World} {B g n : Nat} (h : w0.ownsRow B 3 1 (sl g n n) n (madeCells #[Value.int .i64 0] n).toList) :
    Own w0 B (sl g n n) (List.replicate n 0) := by
  rw [toList_madeCells_one] at h
  unfold Own
  rw [List.length_replicate, List.map_replicate]
  exact h

theorem Own.cell {w : World} {B g n cap : Nat} {xs : List Int} (h : Own w B (sl g n cap) xs) (hn : xs.length = n) (j : Nat) (hj : j < n) : w.cell? ⟨g, j, none⟩ = some (.int .i64 (xs.getD j 0)) := by
  subst hn
  rw [World.ownsRow.cellAt h j (by omega)]
  simp [List.getD, hj]

theorem Own.frozen {w : World} {B g n cap : Nat} {xs : List Int} (h : Own w B (sl g n cap) xs) (hn : xs.length = n) (j : Nat) : w.frozen? ⟨g, j, none⟩ = false := by
  subst hn
  exact World.ownsRow.frozenAt h j

theorem Own.set {w : World} {B g n cap : Nat} {xs : List Int} (h : Own w B (sl g n cap) xs) (hn : xs.length = n) (j : Nat) (u : Int) :
    Own (w.setCell ⟨g, j, none⟩ (.int .i64 u)) B (sl g n cap) (xs.set j u) ∧ w.grownBy (w.setCell ⟨g, j, none⟩ (.int .i64 u)) (some g) := by
  subst hn
  have := World.ownsRow.stored h j (.int .i64 u)
  refine ⟨?_, this.2⟩
  unfold Own
  rw [List.length_set, List.map_set]
  exact this.1

theorem Own.baseLe {w : World} {B g n cap : Nat} {xs : List Int} (h : Own w B (sl g n cap) xs) : B ≤ g ∧ g < w.heap.size := h.lt g rfl

/-- []int{} -/
theorem own_empty (w : World) (B : Nat) (hB : B ≤ w.heap.size) : Own (w.alloc (.cells #[] 3)) B (sl w.heap.size 0 0) [] :=
  World.ownsRow_lit w #[] 0 hB (by unfold maxLen; omega) rfl

/-- What an append does to a slice: where the new one lies. -/
def Moved (w : World) (v v' : Value) : Prop := v'.ownBlock = v.ownBlock ∨ ∃ k, v'.ownBlock = some k ∧ w.heap.size ≤ k

/-- Two slices do not lie in one block. -/
def Apart (u v : Value) : Prop := u.ownBlock = none ∨ u.ownBlock ≠ v.ownBlock

theorem Apart.symm {u v : Value} (h : Apart u v) : Apart v u := by
  rcases h with h | h
  · by_cases hv : v.ownBlock = none
    · exact .inl hv
    · exact .inr (by rw [h]; exact hv)
  · exact .inr (fun e => h e.symm)

theorem Apart.moved {w : World} {B : Nat} {u v v' : Value} {us : List Int} (h : Apart u v) (hm : Moved w v v') (ho : Own w B u us) : Apart u v' := by
  by_cases hu : u.ownBlock = none
  · exact .inl hu
  · refine .inr fun e => ?_
    rcases h with h | h
    · exact hu h
    · rcases hm with hm | ⟨k, hm, hk⟩
      · exact h (e.trans hm)
      · have := (ho.lt k (e.trans hm)).2
        omega

theorem Own.pushed_below {w w' : World} {B : Nat} {v : Value} {xs : List Int} (h : Own w B v xs) (hg : w.grownBy w' v.ownBlock) (hB : B ≤ w.heap.size) : Below B w w' :=
  below_grown hg hB (fun k hk => (h.lt k hk).1)

/-- append(s, y) on a slice of the call's own: 'refine wpList_push hown hlen hB (h := ?_)'. -/
theorem wpList_push {ops : Array Oper} {rest : List Oper} {o : Oper} {a : Act} {Q : Exit → Act → World → Prop} {wr : World} {s x : Operand} {B : Nat} {v : Value} {xs : List Int} {y : Int}
    (hown : Own wr B v xs) (hlen : xs.length ≤ 1048576) (hB : B ≤ wr.heap.size) (hgd : o.guard = none := by rfl)
    (ho : o.op = .call { callee := .builtin .append, args := #[s, x], argTypes := #[35, 35] } := by rfl)
    (hs : a.eval s = v := by rfl) (hx : a.eval x = .slice (some ⟨wr.heap.size, 0, none⟩) 1 1 := by rfl)
    (h : ∀ v' w', Own w' B v' (xs ++ [y]) → wr.grownBy w' v.ownBlock → Moved wr v v' → wpList Tryz.prog ops Q rest (a.put o.dst v') w') :
    wpList Tryz.prog ops Q (o :: rest) a (wr.alloc (.cells #[.int .i64 y] 3)) := by
  obtain ⟨i0, hi, hz0, hz1, hz2⟩ := info_parts infoInt
  refine wpList_append_own_at _ hgd s x 35 ho B 3 i0 (.int .i64 0) 1 8 Tryz.underlying35 hi hz0 hz1 hz2 rfl (by decide) v xs.length (xs.map (Value.int .i64)) hs (World.ownsRow.alloc hown _) ⟨wr.heap.size, 0, none⟩ 1 1 [.int .i64 y] hx rfl (cell_one_new _ _ _) (by intro u hu; simp at hu; subst hu; rfl) (by unfold maxLen; omega) (by omega) (by simp; omega) ?_
  intro v' w' h1 h2 _ h4
  refine h v' w' ?_ ((World.grownBy_alloc wr _ _).trans h2) ?_
  · unfold Own
    rw [List.map_append, List.length_append]
    exact h1
  · rcases h4 with h4 | h4
    · exact .inl h4
    · exact .inr ⟨_, h4, by simp⟩

end Go.Proofs.YtpenbkfchgeafaaGreatDoor

namespace Go.Proofs.YtpenbkfchgeafaaGreatDoor
open Go.RowKit

/-- All values up to n. -/
def tabL (f : Int → Int) (n : Nat) : List Int := (List.range (n + 1)).map fun j : Nat => f (j : Int)
/-- Below x already the new ones. -/
def stL (f g : Int → Int) (x n : Nat) : List Int := (List.range (n + 1)).map fun j : Nat => if j < x then g (j : Int) else f (j : Int)

theorem tabL_len (f : Int → Int) (n : Nat) : (tabL f n).length = n + 1 := by simp [tabL]
theorem stL_len (f g : Int → Int) (x n : Nat) : (stL f g x n).length = n + 1 := by simp [stL]
theorem tabL_at (f : Int → Int) {n j : Nat} (h : j ≤ n) : (tabL f n).getD j 0 = f j := by
  have : j < n + 1 := by omega
  simp [tabL, List.getD, this]
theorem stL_at (f g : Int → Int) (x : Nat) {n j : Nat} (h : j ≤ n) : (stL f g x n).getD j 0 = if j < x then g j else f j := by
  have : j < n + 1 := by omega
  simp [stL, List.getD, this]
theorem stL_set (f g : Int → Int) {x n : Nat} (_h : x ≤ n) : (stL f g x n).set x (g x) = stL f g (x + 1) n := by
  apply List.ext_getElem
  · simp [stL]
  · intro i h1 h2
    rw [List.getElem_set]
    simp only [stL, List.getElem_map, List.getElem_range]
    split
    · rename_i e; subst e; rw [if_pos (by omega)]
    · rename_i e
      by_cases h3 : i < x
      · rw [if_pos h3, if_pos (by omega)]
      · rw [if_neg h3, if_neg (by omega)]
theorem stL_start (f g : Int → Int) {x n : Nat} (h : ∀ j : Nat, j < x → j ≤ n → g j = f j) : stL f g x n = tabL f n := by
  apply List.map_congr_left
  intro j hj
  have hj' : j < n + 1 := by simpa using hj
  split
  · rename_i h2; exact h j h2 (by omega)
  · rfl
theorem stL_end (f g : Int → Int) {x n : Nat} (h : n < x) : stL f g x n = tabL g n := by
  apply List.map_congr_left
  intro j hj
  have hj' : j < n + 1 := by simpa using hj
  rw [if_pos (by omega)]
theorem tabL_congr {f g : Int → Int} {n : Nat} (h : ∀ j : Nat, j ≤ n → f j = g j) : tabL f n = tabL g n := by
  apply List.map_congr_left
  intro j hj
  have hj' : j < n + 1 := by simpa using hj
  exact h j (by omega)

theorem getD_setI (xs : List Int) (i k : Nat) (u : Int) (h : k < xs.length) : (xs.set i u).getD k 0 = if i = k then u else xs.getD k 0 := by
  rw [List.getD_eq_getElem?_getD, List.getD_eq_getElem?_getD, List.getElem?_set]
  split
  · rename_i e; subst e; simp [h]
  · rfl

theorem first_set (n : Nat) (a b : Int) : (List.replicate (n + 1) b).set 0 a = tabL (fun x => if x = 0 then a else b) n := by
  apply List.ext_getElem
  · simp [tabL]
  · intro i h1 h2
    rw [List.getElem_set]
    simp only [tabL, List.getElem_map, List.getElem_range, List.getElem_replicate]
    by_cases h : 0 = i
    · subst h; simp
    · rw [if_neg h, if_neg (by omega)]

theorem take_snoc (cs : List Int) {i : Nat} (h : i < cs.length) : cs.take (i + 1) = cs.take i ++ [cs.getD i 0] := by
  rw [List.take_succ_eq_append_getElem h]
  simp [List.getD, h]

theorem take_mem {cs : List Int} {i : Nat} {c : Int} (h : c ∈ cs.take i) : c ∈ cs := List.mem_of_mem_take h

theorem Pos.take {cs : List Int} (h : Pos cs) (i : Nat) : Pos (cs.take i) := fun c hc => h c (take_mem hc)

/-- Its coin that can be read, wherever the slice lies. -/
theorem IsInts.at0 {w : World} {v : Value} {xs : List Int} (h : IsInts w v xs) (hn : 1 ≤ xs.length) : ∃ b off cap, v = .slice (some ⟨b, off, none⟩) xs.length cap ∧ b < w.heap.size ∧ ∀ j, j < xs.length → w.cell? ⟨b, off + j, none⟩ = some (.int .i64 (xs.getD j 0)) := by
  obtain ⟨a, cap, rfl, hc⟩ := h
  obtain ⟨b, off, rfl, c0⟩ := hc 0 (by omega)
  refine ⟨b, off, cap, rfl, World.block_lt_of_cell? w _ c0, fun j hj => ?_⟩
  obtain ⟨b', off', e, cj⟩ := hc j hj
  simp only [Option.some.injEq, Addr.mk.injEq, and_true] at e
  obtain ⟨rfl, rfl⟩ := e
  exact cj

theorem own_sl {w : World} {B n : Nat} {v : Value} {xs : List Int} (h : Own w B v xs) (hn : xs.length = n) (hp : 1 ≤ n) : ∃ g cap, v = sl g n cap ∧ B ≤ g ∧ g < w.heap.size := by
  rcases h.2 with ⟨_, h0⟩ | ⟨g, cap, cur, hv, _⟩
  · omega
  · subst hn
    exact ⟨g, cap, hv, h.lt g (by rw [hv]; rfl)⟩

theorem own_drewN {w : World} {B : Nat} {v : Value} {xs : List Int} (h : Own w B v xs) (m : Nat) : Own (w.drewN m) B v xs := h.below (Drawn.below ⟨m, rfl⟩)

theorem below_drewNC {w w' : World} {n : Nat} (h : Below n w w') (hn : n ≤ w'.heap.size) (m : Nat) : Below n w (w'.drewN m) :=
  h.trans ((Drawn.below (w := w') ⟨m, rfl⟩).mono hn)

end Go.Proofs.YtpenbkfchgeafaaGreatDoor

namespace Go.Proofs.YtpenbkfchgeafaaGreatDoor
open Go.RowKit

/-- What WaysOf answers. -/
def waysV (cs : List Int) (a : Int) : Int := if vCoins cs = true ∧ inR a 0 120 = true then wyV cs a else -1

theorem grown_drewC {w w' : World} {row : Option Nat} (h : w.grownBy w' row) : w.grownBy w'.drew row := ⟨h.os, h.tape, h.output, h.size, h.block⟩

theorem wy_bounds {cs : List Int} (h : vCoins cs = true) (i : Nat) {x : Int} (hx : x ≤ 120) : 0 ≤ wyV (cs.take i) x ∧ wyV (cs.take i) x ≤ 25937424601 := by
  have := (vc_len h).2
  exact ⟨wy_nonneg _ _, wy_le ((vc_pos h).take i) (by rw [List.length_take]; omega) hx⟩

set_option maxRecDepth 100000 in
set_option maxHeartbeats 3200000 in
theorem WaysOf_spec (v : Value) (cs : List Int) (a : Int) (w : World) (hv : IsInts w v cs) (hl : cs.length ≤ 9223372036854775807) :
    Calls Tryz.prog 36 #[v, .int .i64 a] w fun e w' => e = .returned (.int .i64 (waysV cs a)) ∧ Below w.heap.size w w' := by
  have HVC := Lib.hid (fun r => validCoins_sat v cs r w hv hl)
  have HCC := Lib.hid inRange_sat
  cases h1 : vCoins cs
  · have E : Hid (waysV cs a = -1) := by show _ = _; rw [waysV, if_neg (by rw [h1]; simp)]
    go_enter Tryz.func36, Tryz.ntmps36
    go_wp2_with (go_at_call 37; refine (HVC.out _ h1).mono ?_; rintro e w' ⟨rfl, hd⟩)
    go_ret
    exact ⟨ret_int E.out.symm, hd.below⟩
  cases h2 : inR a 0 120
  · have E : Hid (waysV cs a = -1) := by show _ = _; rw [waysV, if_neg (by rw [h2]; simp)]
    go_enter Tryz.func36, Tryz.ntmps36
    go_wp2_with (first | (go_at_call 37; refine (HVC.out _ h1).mono ?_; rintro e w' ⟨rfl, hd⟩) | (go_at_call 38; refine (HCC.out _ _ _ _ _ h2).mono ?_; rintro e w' ⟨rfl, rfl⟩))
    go_ret
    exact ⟨ret_int E.out.symm, hd.below⟩
  · have E : Hid (waysV cs a = wyV cs a) := by show _ = _; rw [waysV, if_pos ⟨h1, h2⟩]
    have b2 := inR_true h2
    obtain ⟨n, rfl⟩ : ∃ n : Nat, a = n := ⟨a.toNat, by omega⟩
    have n1 : n ≤ 120 := by omega
    obtain ⟨l1, l5⟩ := vc_len h1
    obtain ⟨b, off, cap, rfl, hbw, hc⟩ := hv.at0 l1
    have HC := Lib.hid hc
    have HAT := Lib.hid (fun (i : Nat) => vc_at h1 (i := i))
    have HWB := Lib.hid (fun (i x : Nat) (hx : x ≤ 120) => wy_bounds h1 i (x := x) (by omega))
    have HSN : Hid (∀ i x : Nat, i < cs.length → cs.getD i 0 ≤ x → wyV (cs.take (i + 1)) (x : Int) = wyV (cs.take i) (x : Int) + wyV (cs.take (i + 1)) ((x : Int) - cs.getD i 0)) := fun i x hi h => by
      rw [take_snoc cs hi]; exact wy_snoc h (vc_at h1 hi).1
    have HSL : Hid (∀ i x : Nat, i < cs.length → (x : Int) < cs.getD i 0 → wyV (cs.take (i + 1)) (x : Int) = wyV (cs.take i) (x : Int)) := fun i x hi h => by
      rw [take_snoc cs hi]; exact wy_snoc_less h (vc_at h1 hi).1
    obtain ⟨i0, hi, hz0, hz1, hz2⟩ := info_parts infoInt
    clear b2 hc
    go_enter Tryz.func36, Tryz.ntmps36
    go_wp2_with (first | (go_at_call 37; refine (HVC.out _ h1).mono ?_; rintro e w1 ⟨rfl, hd⟩) | (go_at_call 38; refine (HCC.out _ _ _ _ _ h2).mono ?_; rintro e w' ⟨rfl, rfl⟩) | (at_make; refine wpList_make_full _ rfl _ _ 35 rfl w1.heap.size 3 i0 (.int .i64 0) 1 Tryz.underlying35 hi hz0 hz1 _ _ _ _ (n + 1) rfl rfl rfl rfl ?b2 ?b3 (Nat.le_refl _) ?_))
    case b2 => rw [hz2]; omega
    case b3 => unfold maxLen; omega
    intro w0 hown0 hgrow0
    have hb1 : Below w.heap.size w w1 := hd.below
    have hb0 : Below w.heap.size w w0 := hb1.trans (below_grown hgrow0 hb1.size (fun k h => by cases h))
    have hw0 : Own w0 w1.heap.size (sl w1.heap.size (n + 1) (n + 1)) (List.replicate (n + 1) 0) := own_made hown0
    have hs1 := hb1.size
    generalize w1.heap.size = g at *
    have hs := hw0.set (by simp) 0 1
    have hc0 := hw0.cell (by simp) 0 (by omega)
    have hf0 := hw0.frozen (by simp) 0
    have n0 : (0 : Int) < (n : Int) + 1 := by omega
    rw [first_set n 1 0, show (fun x : Int => if x = 0 then (1 : Int) else 0) = wyV (cs.take 0) by rw [List.take_zero]; rfl] at hs
    have hb2 : Below w.heap.size w (w0.setCell ⟨g, 0, none⟩ (.int .i64 1)) := hb0.setCell hs1 _
    have S0 := Lib.hid hs.1
    clear hown0 hgrow0 hb0 hw0 hs
    go_wp2
    go_loopw [6, 7] (fun iv _ wr => ∃ i : Nat, i ≤ cs.length ∧ iv = .int .i64 i ∧ Own wr g (sl g (n + 1) (n + 1)) (tabL (wyV (cs.take i)) n) ∧ Below w.heap.size w wr) (fun iv _ _ => cs.length - (intOf iv).toNat)
    case atStart => exact ⟨0, Nat.zero_le _, rfl, S0.out, hb2⟩
    case round =>
      clear S0 hb2 hc0 hf0
      obtain ⟨i, hi, rfl, hown, hbl⟩ := hrel
      rename World => wr
      by_cases hlt : i < cs.length
      · have i1 : (i : Int) < (cs.length : Int) := by omega
        have ci : wr.cell? ⟨b, off + i, none⟩ = some (.int .i64 (cs.getD i 0)) := (hbl.cell (by exact hbw)).trans (HC.out i hlt)
        have hat := HAT.out i hlt
        obtain ⟨c, hcn⟩ : ∃ c : Nat, cs.getD i 0 = c := ⟨(cs.getD i 0).toNat, by omega⟩
        have SN := HSN.out i
        have SL := HSL.out i
        rw [hcn] at ci hat SN SL
        have HSNi : Hid (∀ x : Nat, c ≤ x → wyV (cs.take (i + 1)) (x : Int) = wyV (cs.take i) (x : Int) + wyV (cs.take (i + 1)) ((x - c : Nat) : Int)) := fun x h => by
          have := SN x hlt (by omega)
          rwa [show ((x : Int) - (c : Int)) = ((x - c : Nat) : Int) by omega] at this
        have hst := stL_start (f := wyV (cs.take i)) (g := wyV (cs.take (i + 1))) (x := c) (n := n) (fun j h1 h2 => SL j hlt (by omega))
        rw [← hst] at hown
        have HCI : Hid (∀ wz : World, Below w.heap.size w wz → wz.cell? ⟨b, off + i, none⟩ = some (.int .i64 (c : Int))) := fun wz hz => by
          rw [← hcn]; exact (hz.cell (by exact hbw)).trans (HC.out i hlt)
        clear SN SL hst hcn
        go_wp2
        go_loopw [7] (fun xv wx => ∃ x : Nat, c ≤ x ∧ xv = .int .i64 x ∧ x ≤ n + 30 ∧ Own wx g (sl g (n + 1) (n + 1)) (stL (wyV (cs.take i)) (wyV (cs.take (i + 1))) x n) ∧ Below w.heap.size w wx) (fun xv _ => n + 30 - (intOf xv).toNat)
        case atStart => exact ⟨c, Nat.le_refl _, rfl, by omega, hown, hbl⟩
        case round =>
          clear hown ci hbl
          obtain ⟨x, hcx, rfl, hxn, hown, hbl⟩ := hrel
          rename World => wx
          by_cases hx : x ≤ n
          · have x1 : (x : Int) ≤ (n : Int) := by omega
            have x2 : (x : Int) < (n : Int) + 1 := by omega
            have x3 : (0 : Int) ≤ (x : Int) - (c : Int) := by omega
            have x4 : (x : Int) - (c : Int) < (n : Int) + 1 := by omega
            have x5 : ((x : Int) - (c : Int)).toNat = x - c := by omega
            have ci := HCI.out wx hbl
            have c1 := hown.cell (by simp [stL]) x (by omega)
            have c2 := hown.cell (by simp [stL]) (x - c) (by omega)
            have f1 := hown.frozen (by simp [stL]) x
            rw [stL_at _ _ _ hx, if_neg (by omega)] at c1
            rw [stL_at _ _ _ (by omega), if_pos (by omega)] at c2
            have b1 := HWB.out i x (by omega)
            have b2 := HWB.out (i + 1) (x - c) (by omega)
            have b3 := HWB.out (i + 1) x (by omega)
            have hs := (hown.set (by simp [stL]) x (wyV (cs.take (i + 1)) x)).1
            rw [stL_set _ _ hx] at hs
            have he := HSNi.out x hcx
            have bw : Below w.heap.size w (wx.setCell ⟨g, x, none⟩ (.int .i64 (wyV (cs.take (i + 1)) x))).drew := (hbl.setCell hs1 _).drew
            have o2 := hs.kept (grown_drewC (World.grownBy.refl _ none)) (.inr (by simp [Value.ownBlock]))
            have O2 := Lib.hid o2
            clear o2 hs hown
            generalize wyV (cs.take (i + 1)) (x : Int) = z at *
            generalize wyV (cs.take (i + 1)) ((x - c : Nat) : Int) = y at *
            generalize wyV (cs.take i) (x : Int) = u at *
            subst he
            go_wp2
            go_region
            go_wp2
            go_roundw
            case rel => exact ⟨x + 1, by omega, by go_num, by omega, O2.out, bw⟩
            case measure => simp [intOf]; omega
          · rw [stL_end _ _ (by omega)] at hown
            go_wp2
            go_roundw
            case rel => exact ⟨i + 1, by omega, by go_num, hown, hbl⟩
            case measure => simp [intOf]; omega
      · have hie : i = cs.length := by omega
        subst hie
        rw [List.take_length] at hown
        have c1 := hown.cell (by simp [tabL]) n (by omega)
        rw [tabL_at _ (Nat.le_refl _)] at c1
        have n2 : (n : Int) < (n : Int) + 1 := by omega
        go_wp2
        go_ret
        exact ⟨ret_int E.out.symm, hbl⟩

end Go.Proofs.YtpenbkfchgeafaaGreatDoor

namespace Go.Proofs.YtpenbkfchgeafaaGreatDoor
open Go.RowKit

/-- The share with the index i of t in n equal shares. -/
def evenAt (t n : Int) (i : Nat) : Int := if (i : Int) < t % n then t / n + 1 else t / n

def splitL (t n : Int) : List Int := if inR t 0 100000 = true ∧ inR n 1 8 = true then (List.range n.toNat).map (evenAt t n) else []

theorem splitL_no1 {t n : Int} (h : inR t 0 100000 = false) : splitL t n = [] := by rw [splitL, if_neg (by rw [h]; simp)]
theorem splitL_no2 {t n : Int} (h : inR n 1 8 = false) : splitL t n = [] := by rw [splitL, if_neg (by rw [h]; simp)]
theorem splitL_yes {t : Int} {m : Nat} (h : inR t 0 100000 = true) (h' : inR m 1 8 = true) : splitL t m = (List.range m).map (evenAt t m) := by
  rw [splitL, if_pos ⟨h, h'⟩, Int.toNat_natCast]

theorem list_of_getD (ys : List Int) (m : Nat) (f : Nat → Int) (hl : ys.length = m) (h : ∀ j, j < m → ys.getD j 0 = f j) : ys = (List.range m).map f := by
  apply List.ext_getElem
  · simp [hl]
  · intro i h1 h2
    have := h i (by omega)
    rw [List.getD_eq_getElem?_getD, List.getElem?_eq_getElem h1] at this
    simpa using this

theorem getD_set_eq (ys : List Int) (k : Nat) (u : Int) (h : k < ys.length) : (ys.set k u).getD k 0 = u := by
  rw [List.getD_eq_getElem?_getD, List.getElem?_set_self h]; rfl
theorem getD_set_ne (ys : List Int) (k j : Nat) (u : Int) (h : j ≠ k) : (ys.set k u).getD j 0 = ys.getD j 0 := by
  rw [List.getD_eq_getElem?_getD, List.getD_eq_getElem?_getD, List.getElem?_set_ne (by omega)]

set_option maxHeartbeats 800000 in
theorem SplitEven_impl (t n : Int) (w : World) :
    Calls Tryz.prog 75 #[.int .i64 t, .int .i64 n] w fun e w' => ∃ v, e = .returned v ∧ Own w' w.heap.size v (splitL t n) ∧ Below w.heap.size w w' := by
  cases h1 : inR t 0 100000
  · go_enter Tryz.func75, Tryz.ntmps75
    go_wp2_with (go_at_call 73; refine (inRange_impl _ _ _ _).mono ?_; rintro e w' ⟨rfl, rfl⟩)
    go_ret
    exact ⟨_, rfl, by rw [splitL_no1 h1]; exact own_nil _ _, Below.refl _ _⟩
  · cases h2 : inR n 1 8
    · go_enter Tryz.func75, Tryz.ntmps75
      go_wp2_with (go_at_call 73; refine (inRange_impl _ _ _ _).mono ?_; rintro e w' ⟨rfl, rfl⟩)
      go_ret
      exact ⟨_, rfl, by rw [splitL_no2 h2]; exact own_nil _ _, Below.refl _ _⟩
    · have b1 := inR_true h1
      have b2 := inR_true h2
      obtain ⟨m, rfl⟩ : ∃ m : Nat, n = m := ⟨n.toNat, by omega⟩
      have HS := Lib.hid (splitL_yes h1 h2)
      obtain ⟨i0, hi, hz0, hz1, hz2⟩ := info_parts infoInt
      go_enter Tryz.func75, Tryz.ntmps75
      go_wp2_with (first | (go_at_call 73; refine (inRange_impl _ _ _ _).mono ?_; rintro e w' ⟨rfl, rfl⟩) | (at_make; refine wpList_make_full _ rfl _ _ 35 rfl w.heap.size 3 i0 (.int .i64 0) 1 Tryz.underlying35 hi hz0 hz1 _ _ _ _ m rfl rfl rfl rfl ?b2 ?b3 (Nat.le_refl _) ?_))
      case b2 => rw [hz2]; omega
      case b3 => unfold maxLen; omega
      clear hi hz0 hz1 hz2
      intro w0 hown0 hgrow0
      have hb0 : Below w.heap.size w w0 := below_grown hgrow0 (Nat.le_refl _) (fun k h => by cases h)
      have ho0 : Own w0 w.heap.size (sl w.heap.size m m) (List.replicate m 0) := own_made (by simpa using hown0)
      clear hown0 hgrow0
      go_wp2
      go_loopw [19] (fun i wr => ∃ (k : Nat) (ys : List Int), k ≤ m ∧ i = .int .i64 k ∧ ys.length = m ∧ (∀ j, j < k → ys.getD j 0 = evenAt t m j) ∧ Own wr w.heap.size (sl w.heap.size m m) ys ∧ Below w.heap.size w wr)
        (fun i _ => m - (intOf i).toNat)
      case atStart => exact ⟨0, _, Nat.zero_le _, rfl, by simp, fun j hj => by omega, ho0, hb0⟩
      case round =>
        obtain ⟨k, ys, hk, rfl, hl, hys, hown, hbel⟩ := hrel
        by_cases hlt : k < m
        · have hkl : k < ys.length := by omega
          have hcell := hown.cell hl k hlt
          have hfr := hown.frozen hl k
          have st1 := hown.set hl k (t / m)
          have hfr1 := st1.1.frozen (by simpa using hl) k
          have hcell1 := st1.1.cell (by simpa using hl) k hlt
          rw [getD_set_eq _ _ _ hkl] at hcell1
          have hb1 : Below w.heap.size w _ := hbel.trans (below_grown st1.2 hbel.size (fun q hq => by cases hq; exact Nat.le_refl _))
          have st2 := st1.1.set (by simpa using hl) k (t / m + 1)
          have hb2 : Below w.heap.size w _ := hb1.trans (below_grown st2.2 hb1.size (fun q hq => by cases hq; exact Nat.le_refl _))
          have HA := Lib.hid hys
          have HL := Lib.hid hl
          have O1 := Lib.hid st1.1
          have O2 := Lib.hid st2.1
          clear hys hl st1 st2 hown ho0
          have hq0 : 0 ≤ t / (m : Int) := Int.ediv_nonneg (by omega) (by omega)
          have hq1 : t / (m : Int) ≤ t := Int.ediv_le_self _ (by omega)
          by_cases hr : (k : Int) < t % (m : Int)
          · go_wp2
            go_roundw
            case rel =>
              refine ⟨k + 1, _, by omega, by go_num, ?_, ?_, O2.out, hb2⟩
              · simpa using HL.out
              · intro j hj
                by_cases hjk : j = k
                · subst hjk
                  rw [getD_set_eq _ _ _ (by simpa using hkl), evenAt, if_pos hr]
                · rw [getD_set_ne _ _ _ _ hjk, getD_set_ne _ _ _ _ hjk]
                  exact HA.out j (by omega)
            case measure => simp [intOf]; omega
          · go_wp2
            go_roundw
            case rel =>
              refine ⟨k + 1, _, by omega, by go_num, ?_, ?_, O1.out, hb1⟩
              · simpa using HL.out
              · intro j hj
                by_cases hjk : j = k
                · subst hjk
                  rw [getD_set_eq _ _ _ hkl, evenAt, if_neg hr]
                · rw [getD_set_ne _ _ _ _ hjk]
                  exact HA.out j (by omega)
            case measure => simp [intOf]; omega
        · have e := list_of_getD ys m (evenAt t m) hl (fun j hj => hys j (by omega))
          rw [e, ← HS.out] at hown
          clear hl hys e
          go_wp2
          go_ret
          exact ⟨_, rfl, hown, hbel⟩

set_option maxHeartbeats 800000 in
theorem SplitEven_spec (t n : Int) (w : World) :
    Calls Tryz.prog 47 #[.int .i64 t, .int .i64 n] w fun e w' => ∃ v, e = .returned v ∧ Own w' w.heap.size v (splitL t n) ∧ Below w.heap.size w w' := by
  cases h1 : inR t 0 100000
  · go_enter Tryz.func47, Tryz.ntmps47
    go_wp2_with (go_at_call 38; refine (inRange_spec _ _ _ _).mono ?_; rintro e w' ⟨rfl, rfl⟩)
    go_ret
    exact ⟨_, rfl, by rw [splitL_no1 h1]; exact own_nil _ _, Below.refl _ _⟩
  · cases h2 : inR n 1 8
    · go_enter Tryz.func47, Tryz.ntmps47
      go_wp2_with (go_at_call 38; refine (inRange_spec _ _ _ _).mono ?_; rintro e w' ⟨rfl, rfl⟩)
      go_ret
      exact ⟨_, rfl, by rw [splitL_no2 h2]; exact own_nil _ _, Below.refl _ _⟩
    · have b1 := inR_true h1
      have b2 := inR_true h2
      obtain ⟨m, rfl⟩ : ∃ m : Nat, n = m := ⟨n.toNat, by omega⟩
      have HS := Lib.hid (splitL_yes h1 h2)
      have ho0 := own_empty w w.heap.size (Nat.le_refl _)
      have hb0 : Below w.heap.size w (w.alloc (.cells #[] 3)) := (Below.refl _ _).alloc (Nat.le_refl _) _
      go_enter Tryz.func47, Tryz.ntmps47
      go_wp2_with (go_at_call 38; refine (inRange_spec _ _ _ _).mono ?_; rintro e w' ⟨rfl, rfl⟩)
      go_loopw [5, 6] (fun v i wr => ∃ k : Nat, k ≤ m ∧ i = .int .i64 k ∧ Own wr w.heap.size v ((List.range k).map (evenAt t m)) ∧ Below w.heap.size w wr)
        (fun _ i _ => m - (intOf i).toNat)
      case atStart => exact ⟨0, Nat.zero_le _, rfl, ho0, hb0⟩
      case round =>
        obtain ⟨k, hk, rfl, hown, hbel⟩ := hrel
        have hq0 : 0 ≤ t / (m : Int) := Int.ediv_nonneg (by omega) (by omega)
        have hq1 : t / (m : Int) ≤ t := Int.ediv_le_self _ (by omega)
        have hsz := hbel.size
        clear ho0 hb0
        by_cases hlt : k < m
        · by_cases hr : (k : Int) < t % (m : Int)
          · go_wp2_with (at_builtin; refine wpList_push hown (by simp; omega) hsz (h := ?_))
            intro v' w1 hown1 hgr1 _
            have hb1 : Below w.heap.size w w1 := hbel.trans (hown.pushed_below hgr1 hsz)
            have e : (List.range k).map (evenAt t m) ++ [t / m + 1] = (List.range (k + 1)).map (evenAt t m) := by
              rw [List.range_succ, List.map_append, List.map_cons, List.map_nil]
              congr 2
              rw [evenAt, if_pos hr]
            rw [e] at hown1
            clear hown hgr1 e
            go_wp2
            go_roundw
            case rel => exact ⟨k + 1, by omega, by go_num, hown1, hb1⟩
            case measure => simp [intOf]; omega
          · go_wp2_with (at_builtin; refine wpList_push hown (by simp; omega) hsz (h := ?_))
            intro v' w1 hown1 hgr1 _
            have hb1 : Below w.heap.size w w1 := hbel.trans (hown.pushed_below hgr1 hsz)
            have e : (List.range k).map (evenAt t m) ++ [t / m] = (List.range (k + 1)).map (evenAt t m) := by
              rw [List.range_succ, List.map_append, List.map_cons, List.map_nil]
              congr 2
              rw [evenAt, if_neg (by omega)]
            rw [e] at hown1
            clear hown hgr1 e
            go_wp2
            go_roundw
            case rel => exact ⟨k + 1, by omega, by go_num, hown1, hb1⟩
            case measure => simp [intOf]; omega
        · have hk2 : k = m := by omega
          subst hk2
          rw [← HS.out] at hown
          go_wp2
          go_ret
          exact ⟨_, rfl, hown, hbel⟩

theorem splitL_length (t n : Int) : (splitL t n).length ≤ 8 := by
  unfold splitL
  split
  · rename_i h
    have := inR_true h.2
    simp
    omega
  · simp

end Go.Proofs.YtpenbkfchgeafaaGreatDoor

namespace Go.Proofs.YtpenbkfchgeafaaGreatDoor
open Go.RowKit

/-- A total can be shared by weights. -/
def cShare (t : Int) (xs : List Int) : Bool := inR t 0 100000 && vParts xs

theorem vParts_facts {xs : List Int} (h : vParts xs = true) : (1 ≤ xs.length ∧ xs.length ≤ 8) ∧ (∀ x ∈ xs, 0 ≤ x ∧ x ≤ 50) ∧ 1 ≤ tot xs ∧ tot xs ≤ 400 ∧ SumFits xs := by
  unfold vParts at h
  simp only [Bool.and_eq_true, decide_eq_true_eq] at h
  have h1 := inR_true h.1.1
  have h2 := allR_true h.1.2
  have h3 := tot_bounds xs 50 h2
  exact ⟨by omega, h2, by omega, by omega, vParts_sumFits h.1.1 h.1.2⟩

theorem cShare_facts {t : Int} {xs : List Int} (h : cShare t xs = true) : 0 ≤ t ∧ t ≤ 100000 ∧ vParts xs = true := by
  unfold cShare at h
  simp only [Bool.and_eq_true] at h
  have := inR_true h.1
  exact ⟨this.1, this.2, h.2⟩

theorem tot_take_bounds {xs : List Int} (h : ∀ x ∈ xs, 0 ≤ x ∧ x ≤ 50) (hl : xs.length ≤ 8) (k : Nat) : 0 ≤ tot (xs.take k) ∧ tot (xs.take k) ≤ 400 := by
  have := tot_bounds (xs.take k) 50 (fun x hx => h x (List.mem_of_mem_take hx))
  have hl2 : (xs.take k).length ≤ 8 := by simp; omega
  omega

set_option maxHeartbeats 400000 in
theorem canShare_impl (t : Int) (v : Value) (xs : List Int) (w : World) (hv : IsInts w v xs) (hl : xs.length ≤ 9223372036854775807) :
    Calls Tryz.prog 69 #[.int .i64 t, v] w fun e w' => e = .returned (.bool (cShare t xs)) ∧ w = w' := by
  cases h1 : inR t 0 100000
  all_goals
    go_enter Tryz.func69, Tryz.ntmps69
    go_wp2_with (first | (go_at_call 73; refine (inRange_impl _ _ _ _).mono ?_; rintro e w' ⟨rfl, rfl⟩) | (go_at_call 87; refine (ValidParts_impl _ _ _ hv hl).mono ?_; rintro e w' ⟨rfl, rfl⟩))
    go_ret
    exact ⟨ret_bool (by rw [cShare, h1]; rfl), rfl⟩

set_option maxHeartbeats 400000 in
theorem validTotal_spec (t : Int) (v : Value) (xs : List Int) (w : World) (hv : IsInts w v xs) (hl : xs.length ≤ 9223372036854775807) :
    Calls Tryz.prog 33 #[.int .i64 t, v] w fun e w' => e = .returned (.bool (cShare t xs)) ∧ w = w' := by
  cases h1 : inR t 0 100000
  all_goals
    go_enter Tryz.func33, Tryz.ntmps33
    go_wp2_with (first | (go_at_call 38; refine (inRange_spec _ _ _ _).mono ?_; rintro e w' ⟨rfl, rfl⟩) | (go_at_call 49; refine (validParts_spec _ _ _ hv hl).mono ?_; rintro e w' ⟨rfl, rfl⟩))
    go_ret
    exact ⟨ret_bool (by rw [cShare, h1]; rfl), rfl⟩

/-- The total times a sum, divided by that of all and rounded, halves up. -/
def rd (t s u : Int) : Int := (2 * t * u + s) / (2 * s)

theorem rd_facts {t s u : Int} (h0 : 0 ≤ t) (h1 : t ≤ 100000) (h2 : 1 ≤ s) (h3 : s ≤ 400) (h4 : 0 ≤ u) (h5 : u ≤ 400) :
    (0 ≤ 2 * t * u ∧ 2 * t * u ≤ 80000000) ∧ 0 ≤ (2 * t * u + s) / (2 * s) ∧ (2 * t * u + s) / (2 * s) ≤ 80000400 := by
  have a : 0 ≤ 2 * t * u := Int.mul_nonneg (by omega) h4
  have b : 2 * t * u ≤ 200000 * 400 := Int.mul_le_mul (by omega) h5 h4 (by omega)
  refine ⟨⟨a, by omega⟩, Int.ediv_nonneg (by omega) (by omega), ?_⟩
  have := Int.ediv_le_self (2 * s) (show 0 ≤ 2 * t * u + s by omega)
  omega

theorem rd_bounds {t s u : Int} (h0 : 0 ≤ t) (h1 : t ≤ 100000) (h2 : 1 ≤ s) (h3 : s ≤ 400) (h4 : 0 ≤ u) (h5 : u ≤ 400) : 0 ≤ rd t s u ∧ rd t s u ≤ 80000400 := (rd_facts h0 h1 h2 h3 h4 h5).2

theorem rd_zero (t s : Int) (h2 : 1 ≤ s) : rd t s 0 = 0 := by
  unfold rd
  rw [Int.mul_zero, Int.zero_add]
  exact Int.ediv_eq_zero_of_lt (by omega) (by omega)

set_option maxHeartbeats 800000 in
theorem halvesUp_sums (a b : Int) (w : World) (ha : 0 ≤ a ∧ a ≤ 40000000) (hb : 1 ≤ b ∧ b ≤ 400) :
    Calls Tryz.prog 72 #[.int .i64 a, .int .i64 b] w fun e w' => e = .returned (.int .i64 ((2 * a + b) / (2 * b))) ∧ w = w' := by
  have hd0 := Int.ediv_nonneg (show 0 ≤ 2 * a + b by omega) (show 0 ≤ 2 * b by omega)
  have hd1 := Int.ediv_le_self (2 * b) (show 0 ≤ 2 * a + b by omega)
  have hb0 : 2 * b ≠ 0 := by omega
  generalize hq : (2 * a + b) / (2 * b) = q at *
  have HI : Hid (q = (2 * a + b) / (2 * b)) := hq.symm
  clear hq
  go_enter Tryz.func72, Tryz.ntmps72
  go_wp2
  go_ret
  exact ⟨ret_int HI.out.symm, rfl⟩

theorem halvesUp_rd {t s u : Int} (h0 : 0 ≤ t) (h1 : t ≤ 100000) (h2 : 1 ≤ s) (h3 : s ≤ 400) (h4 : 0 ≤ u) (h5 : u ≤ 400) (w : World) :
    Calls Tryz.prog 72 #[.int .i64 (t * u), .int .i64 s] w fun e w' => e = .returned (.int .i64 (rd t s u)) ∧ w = w' := by
  have f := (rd_facts h0 h1 h2 h3 h4 h5).1
  rw [Int.mul_assoc] at f
  have h := halvesUp_sums (t * u) s w (by omega) ⟨h2, h3⟩
  rw [rd, Int.mul_assoc]
  exact h

/-- The share by sums of the part with the index i. -/
def sumsAt (t : Int) (xs : List Int) (i : Nat) : Int := rd t (tot xs) (tot (xs.take (i + 1))) - rd t (tot xs) (tot (xs.take i))

def sumsL (t : Int) (xs : List Int) : List Int := if cShare t xs = true then (List.range xs.length).map (sumsAt t xs) else []

theorem sumsL_length (t : Int) (xs : List Int) : (sumsL t xs).length ≤ 8 := by
  unfold sumsL
  split
  · rename_i h
    have := (vParts_facts (cShare_facts h).2.2).1
    simp
    omega
  · simp

set_option maxHeartbeats 1600000 in
theorem ShareBySums_impl (t : Int) (v : Value) (xs : List Int) (w : World) (hv : IsInts w v xs) (hl : xs.length ≤ 9223372036854775807) :
    Calls Tryz.prog 57 #[.int .i64 t, v] w fun e w' => ∃ v', e = .returned v' ∧ Own w' w.heap.size v' (sumsL t xs) ∧ Below w.heap.size w w' := by
  have hv' := hv
  obtain ⟨a, cap, rfl, hc⟩ := hv
  cases h1 : cShare t xs
  · go_enter Tryz.func57, Tryz.ntmps57
    go_wp2_with (go_at_call 69; refine (canShare_impl _ _ _ _ hv' hl).mono ?_; rintro e w' ⟨rfl, rfl⟩)
    go_ret
    exact ⟨_, rfl, by rw [sumsL, h1]; exact own_nil _ _, Below.refl _ _⟩
  · obtain ⟨t0, t1, hvp⟩ := cShare_facts h1
    obtain ⟨hlen, hall, s0, s1, hsf⟩ := vParts_facts hvp
    have HS := Lib.hid (show sumsL t xs = (List.range xs.length).map (sumsAt t xs) by rw [sumsL, if_pos h1])
    obtain ⟨i0, hi, hz0, hz1, hz2⟩ := info_parts infoInt
    go_enter Tryz.func57, Tryz.ntmps57
    go_wp2_with (first | (go_at_call 69; refine (canShare_impl _ _ _ _ hv' hl).mono ?_; rintro e w' ⟨rfl, rfl⟩) | (go_at_call 70; refine (sum_impl _ _ _ hv' hl hsf).mono ?_; rintro e w' ⟨rfl, rfl⟩) | (at_make; refine wpList_make_full _ rfl _ _ 35 rfl w.heap.size 3 i0 (.int .i64 0) 1 Tryz.underlying35 hi hz0 hz1 _ _ _ _ xs.length rfl rfl rfl rfl ?b2 ?b3 (Nat.le_refl _) ?_))
    case b2 => rw [hz2]; omega
    case b3 => unfold maxLen; omega
    clear hi hz0 hz1 hz2 hvp
    intro w0 hown0 hgrow0
    have hb0 : Below w.heap.size w w0 := below_grown hgrow0 (Nat.le_refl _) (fun k h => by cases h)
    have ho0 : Own w0 w.heap.size (sl w.heap.size xs.length xs.length) (List.replicate xs.length 0) := own_made (by simpa using hown0)
    clear hown0 hgrow0
    go_wp2
    go_loopw [7, 8, 23] (fun u g i wr => ∃ (k : Nat) (ys : List Int), k ≤ xs.length ∧ i = .int .i64 k ∧ u = .int .i64 (tot (xs.take k)) ∧ g = .int .i64 (rd t (tot xs) (tot (xs.take k))) ∧ ys.length = xs.length ∧ (∀ j, j < k → ys.getD j 0 = sumsAt t xs j) ∧ Own wr w.heap.size (sl w.heap.size xs.length xs.length) ys ∧ Below w.heap.size w wr)
      (fun _ _ i _ => xs.length - (intOf i).toNat)
    case atStart => exact ⟨0, _, Nat.zero_le _, rfl, rfl, by rw [show tot (xs.take 0) = 0 from rfl, rd_zero _ _ s0], by simp, fun j hj => by omega, ho0, hb0⟩
    case round =>
      obtain ⟨k, ys, hk, rfl, rfl, rfl, hyl, hys, hown, hbel⟩ := hrel
      by_cases hlt : k < xs.length
      · obtain ⟨b, off, rfl, hcell0⟩ := hc k hlt
        have hcell : wr.cell? ⟨b, off + k, none⟩ = some (.int .i64 (xs.getD k 0)) := (hbel.cell (by exact World.block_lt_of_cell? w _ hcell0)).trans hcell0
        have hkl : k < ys.length := by omega
        have hdst := hown.cell hyl k hlt
        have hfr := hown.frozen hyl k
        have hsk := tot_take_succ xs k hlt
        have u0 := tot_take_bounds hall hlen.2 k
        have u1 := tot_take_bounds hall hlen.2 (k + 1)
        have g0 := rd_bounds t0 t1 s0 s1 u0.1 u0.2
        have g1 := rd_facts t0 t1 s0 s1 u1.1 u1.2
        rw [hsk] at u1 g1
        have HC1 := Lib.hid (halvesUp_rd t0 t1 s0 s1 u1.1 u1.2)
        have W1 : IntKind.i64.wrap (t * (tot (xs.take k) + xs[k])) = t * (tot (xs.take k) + xs[k]) := by
          have f := g1.1
          rw [Int.mul_assoc] at f
          exact IntWalk.i64_in _ (by omega)
        have st := hown.set hyl k (rd t (tot xs) (tot (xs.take k) + xs[k]) - rd t (tot xs) (tot (xs.take k)))
        have hb1 : Below w.heap.size w _ := hbel.trans (below_grown st.2 hbel.size (fun q hq => by cases hq; exact Nat.le_refl _))
        have g2 := rd_bounds t0 t1 s0 s1 u1.1 u1.2
        have HK := Lib.hid hsk
        have HA := Lib.hid hys
        have HL := Lib.hid hyl
        have O1 := Lib.hid st.1
        clear g1
        clear hsk hys hyl st hown ho0 hc hv' hsf hcell0 hall
        go_wp2_with (go_at_call 72; refine (HC1.out _).mono ?_; rintro e w' ⟨rfl, rfl⟩)
        go_roundw
        case rel =>
          refine ⟨k + 1, _, by omega, by go_num, by rw [HK.out], by rw [HK.out], ?_, ?_, O1.out, hb1⟩
          · simpa using HL.out
          · intro j hj
            by_cases hjk : j = k
            · subst hjk
              rw [getD_set_eq _ _ _ hkl, sumsAt, HK.out]
            · rw [getD_set_ne _ _ _ _ hjk]
              exact HA.out j (by omega)
        case measure => simp [intOf]; omega
      · have e := list_of_getD ys xs.length (sumsAt t xs) hyl (fun j hj => hys j (by omega))
        rw [e, ← HS.out] at hown
        clear hyl hys e
        go_wp2
        go_ret
        exact ⟨_, rfl, hown, hbel⟩

set_option maxHeartbeats 1600000 in
theorem running_spec (t : Int) (v : Value) (xs : List Int) (w : World) (hv : IsInts w v xs) (h1 : cShare t xs = true) :
    Calls Tryz.prog 35 #[.int .i64 t, v] w fun e w' => ∃ v', e = .returned v' ∧ Own w' w.heap.size v' (sumsL t xs) ∧ Below w.heap.size w w' := by
  have hv' := hv
  obtain ⟨a, cap, rfl, hc⟩ := hv
  obtain ⟨t0, t1, hvp⟩ := cShare_facts h1
  obtain ⟨hlen, hall, s0, s1, hsf⟩ := vParts_facts hvp
  have HS := Lib.hid (show sumsL t xs = (List.range xs.length).map (sumsAt t xs) by rw [sumsL, if_pos h1])
  have ho0 := own_empty w w.heap.size (Nat.le_refl _)
  have hb0 : Below w.heap.size w (w.alloc (.cells #[] 3)) := (Below.refl _ _).alloc (Nat.le_refl _) _
  have hl : xs.length ≤ 9223372036854775807 := by omega
  clear h1 hvp
  go_enter Tryz.func35, Tryz.ntmps35
  go_wp2_with (go_at_call 48; refine (sum_spec _ _ _ hv' hl hsf).mono ?_; rintro e w' ⟨rfl, rfl⟩)
  go_loopw [6, 7, 8, 9] (fun o u g i wr => ∃ k : Nat, k ≤ xs.length ∧ i = .int .i64 k ∧ u = .int .i64 (tot (xs.take k)) ∧ g = .int .i64 (rd t (tot xs) (tot (xs.take k))) ∧ Own wr w.heap.size o ((List.range k).map (sumsAt t xs)) ∧ Below w.heap.size w wr)
    (fun _ _ _ i _ => xs.length - (intOf i).toNat)
  case atStart => exact ⟨0, Nat.zero_le _, rfl, rfl, by rw [show tot (xs.take 0) = 0 from rfl, rd_zero _ _ s0], ho0, hb0⟩
  case round =>
    obtain ⟨k, hk, rfl, rfl, rfl, hown, hbel⟩ := hrel
    have hsz := hbel.size
    clear ho0 hb0
    by_cases hlt : k < xs.length
    · obtain ⟨b, off, rfl, hcell0⟩ := hc k hlt
      have hcell : wr.cell? ⟨b, off + k, none⟩ = some (.int .i64 (xs.getD k 0)) := (hbel.cell (by exact World.block_lt_of_cell? w _ hcell0)).trans hcell0
      have hsk := tot_take_succ xs k hlt
      have u0 := tot_take_bounds hall hlen.2 k
      have u1 := tot_take_bounds hall hlen.2 (k + 1)
      have g0 := rd_bounds t0 t1 s0 s1 u0.1 u0.2
      have g1 := rd_facts t0 t1 s0 s1 u1.1 u1.2
      rw [hsk] at u1 g1
      have HK := Lib.hid hsk
      clear hsk hc hv' hsf hcell0 hall
      go_wp2_with (at_builtin; refine wpList_push hown (by simp; omega) hsz (h := ?_))
      intro v' w1 hown1 hgr1 _
      have hb1 : Below w.heap.size w w1 := hbel.trans (hown.pushed_below hgr1 hsz)
      have e : (List.range k).map (sumsAt t xs) ++ [(2 * t * (tot (xs.take k) + xs[k]) + tot xs) / (2 * tot xs) - rd t (tot xs) (tot (xs.take k))] = (List.range (k + 1)).map (sumsAt t xs) := by
        rw [List.range_succ, List.map_append, List.map_cons, List.map_nil]
        congr 2
        rw [sumsAt, HK.out]
        rfl
      rw [e] at hown1
      clear hown hgr1 e
      go_wp2
      go_roundw
      case rel => exact ⟨k + 1, by omega, by go_num, by rw [HK.out], by rw [HK.out]; rfl, hown1, hb1⟩
      case measure => simp [intOf]; omega
    · have hk2 : k = xs.length := by omega
      have hown' : Own wr w.heap.size u6 (sumsL t xs) := by rw [HS.out, ← hk2]; exact hown
      clear hown hk2
      go_wp2
      go_ret
      exact ⟨_, rfl, hown', hbel⟩

end Go.Proofs.YtpenbkfchgeafaaGreatDoor

namespace Go.Proofs.YtpenbkfchgeafaaGreatDoor

/-- The number with the index j is ahead of that with the index i. -/
def aheadB (r : Nat → Int) (j i : Nat) : Bool := decide (r i < r j) || (decide (r j = r i) && decide (j < i))

theorem aheadB_iff (r : Nat → Int) (j i : Nat) : aheadB r j i = true ↔ r i < r j ∨ (r j = r i ∧ j < i) := by
  simp [aheadB]

/-- How many of the first n are ahead. -/
def cntA (r : Nat → Int) (i n : Nat) : Nat := (List.range n).countP (fun j => aheadB r j i)

theorem cntA_le (r : Nat → Int) (i n : Nat) : cntA r i n ≤ n := by
  have := List.countP_le_length (p := fun j => aheadB r j i) (l := List.range n)
  simpa [cntA] using this

theorem cntA_succ (r : Nat → Int) (i n : Nat) : cntA r i (n + 1) = cntA r i n + if aheadB r n i = true then 1 else 0 := by
  unfold cntA
  rw [List.range_succ, List.countP_append, List.countP_singleton]

theorem countP_range_mono (p q : Nat → Bool) (n : Nat) (h : ∀ j, j < n → p j = true → q j = true) : (List.range n).countP p ≤ (List.range n).countP q := by
  apply List.countP_mono_left
  intro x hx hp
  exact h x (by simpa using hx) hp

theorem countP_insert (p : Nat → Bool) (a : Nat) (hp : p a = false) : ∀ n, a < n → (List.range n).countP (fun j => p j || decide (j = a)) = (List.range n).countP p + 1 := by
  have hsame : ∀ n, n ≤ a → (List.range n).countP (fun j => p j || decide (j = a)) = (List.range n).countP p := by
    intro n hn
    apply List.countP_congr
    intro x hx
    have : x < n := by simpa using hx
    have e : x ≠ a := by omega
    simp [e]
  intro n
  induction n with
  | zero => intro h; omega
  | succ n ih =>
    intro h
    rw [List.range_succ, List.countP_append, List.countP_append, List.countP_singleton, List.countP_singleton]
    by_cases e : a = n
    · subst e
      rw [hsame a (Nat.le_refl _), hp]
      simp
    · rw [ih (by omega)]
      have e' : n ≠ a := fun h => e h.symm
      simp [e']
      omega

theorem exists_unpicked (p : Nat → Bool) (n : Nat) (h : (List.range n).countP p < n) : ∃ i, i < n ∧ p i = false := by
  apply Classical.byContradiction
  intro hno
  have hall : ∀ i ∈ List.range n, p i = true := by
    intro i hi
    have hin : i < n := by simpa using hi
    cases hpi : p i
    · exact absurd ⟨i, hin, hpi⟩ hno
    · rfl
  have := List.countP_eq_length.2 hall
  simp at this
  omega

/-- k of the first n are picked, each of them ahead of all others. -/
def Inv (r : Nat → Int) (n : Nat) (p : Nat → Bool) (k : Nat) : Prop :=
  (List.range n).countP p = k ∧ ∀ i j, i < n → j < n → p i = true → p j = false → aheadB r i j = true

/-- What is left to be picked. -/
def restF (r : Nat → Int) (p : Nat → Bool) (j : Nat) : Int := if p j = true then -1 else r j

/-- The first one of the greatest of the first n. -/
def FirstMax (f : Nat → Int) (n m : Nat) : Prop := m < n ∧ (∀ j, j < n → f j ≤ f m) ∧ ∀ j, j < m → f j < f m

theorem inv_start (r : Nat → Int) (n : Nat) : Inv r n (fun _ => false) 0 := by
  refine ⟨by simp, ?_⟩
  intro i j _ _ h
  cases h

theorem inv_step {r : Nat → Int} {n k m : Nat} {p : Nat → Bool} (hr : ∀ j, j < n → 0 ≤ r j) (h : Inv r n p k) (hk : k < n) (hm : FirstMax (restF r p) n m) :
    p m = false ∧ Inv r n (fun j => p j || decide (j = m)) (k + 1) := by
  obtain ⟨i0, hi0, hp0⟩ := exists_unpicked p n (by rw [h.1]; exact hk)
  have hpm : p m = false := by
    cases hpm : p m
    · rfl
    · have := hm.2.1 i0 hi0
      have h0 := hr i0 hi0
      unfold restF at this
      rw [hpm, hp0] at this
      simp at this
      omega
  refine ⟨hpm, by rw [countP_insert p m hpm n hm.1, h.1], ?_⟩
  intro i j hi hj hpi hpj
  simp only [Bool.or_eq_false_iff, decide_eq_false_iff_not] at hpj
  simp only [Bool.or_eq_true, decide_eq_true_eq] at hpi
  rcases hpi with hpi | rfl
  · exact h.2 i j hi hj hpi hpj.1
  · rw [aheadB_iff]
    have h1 := hm.2.1 j hj
    have h2 := hm.2.2 j
    unfold restF at h1 h2
    rw [hpj.1, hpm] at h1
    simp only [Bool.false_eq_true, if_false] at h1
    rw [hpj.1, hpm] at h2
    simp only [Bool.false_eq_true, if_false] at h2
    by_cases hlt : j < i
    · exact .inl (h2 hlt)
    · have hne := hpj.2
      by_cases he : r j = r i
      · exact .inr ⟨he.symm, by omega⟩
      · exact .inl (by omega)

theorem inv_end {r : Nat → Int} {n k : Nat} {p : Nat → Bool} (h : Inv r n p k) (i : Nat) (hi : i < n) : p i = true ↔ cntA r i n < k := by
  constructor
  · intro hp
    have hirr : aheadB r i i = false := by
      cases hx : aheadB r i i
      · rfl
      · rw [aheadB_iff] at hx; omega
    have h1 := countP_insert (fun j => aheadB r j i) i hirr n hi
    have h2 := countP_range_mono (fun j => aheadB r j i || decide (j = i)) p n (by
      intro j hj hq
      simp only [Bool.or_eq_true, decide_eq_true_eq] at hq
      rcases hq with hq | rfl
      · cases hpj : p j
        · have := h.2 i j hi hj hp hpj
          rw [aheadB_iff] at this hq
          omega
        · rfl
      · exact hp)
    have h3 := h.1
    unfold cntA
    omega
  · intro hlt
    cases hp : p i
    · have h2 := countP_range_mono p (fun j => aheadB r j i) n (fun j hj hpj => h.2 j i hj hi hpj hp)
      have h3 := h.1
      unfold cntA at hlt
      omega
    · rfl

theorem quot_sum (t s : Int) (hs : 1 ≤ s) (l : List Int) : ∃ R : Int, s * tot (l.map (fun x => t * x / s)) + R = t * tot l ∧ 0 ≤ R ∧ R ≤ (s - 1) * l.length := by
  unfold tot
  induction l with
  | nil => exact ⟨0, by simp, by omega, by simp⟩
  | cons a l ih =>
    obtain ⟨R, h1, h2, h3⟩ := ih
    have e1 := Int.mul_ediv_add_emod (t * a) s
    have e2 := Int.emod_nonneg (t * a) (show s ≠ 0 by omega)
    have e3 := Int.emod_lt_of_pos (t * a) (show 0 < s by omega)
    refine ⟨t * a % s + R, ?_, by omega, ?_⟩
    · simp only [List.map_cons, List.sum_cons, Int.mul_add]
      omega
    · simp only [List.length_cons, Int.natCast_add, Int.mul_add]
      omega

/-- What is left over is less than the number of parts. -/
theorem left_bounds {t : Int} {xs : List Int} (h : cShare t xs = true) :
    0 ≤ t - tot (xs.map (fun x => t * x / tot xs)) ∧ t - tot (xs.map (fun x => t * x / tot xs)) < xs.length := by
  obtain ⟨t0, t1, hvp⟩ := cShare_facts h
  obtain ⟨hlen, hall, s0, s1, hsf⟩ := vParts_facts hvp
  obtain ⟨R, h1, h2, h3⟩ := quot_sum t (tot xs) s0 xs
  generalize tot (xs.map (fun x => t * x / tot xs)) = Q at *
  generalize tot xs = s at *
  have e : s * (t - Q) = R := by rw [Int.mul_sub, Int.mul_comm s t]; omega
  have hn : (s - 1) * (xs.length : Int) = s * xs.length - xs.length := by rw [Int.sub_mul, Int.one_mul]
  constructor
  · apply Classical.byContradiction
    intro hneg
    have : s * (t - Q) < 0 := Int.mul_neg_of_pos_of_neg (by omega) (by omega)
    omega
  · apply Int.lt_of_mul_lt_mul_left (a := s) _ (by omega)
    omega

end Go.Proofs.YtpenbkfchgeafaaGreatDoor

namespace Go.Proofs.YtpenbkfchgeafaaGreatDoor
open Go.RowKit

def rAt (t : Int) (xs : List Int) (i : Nat) : Int := t * xs.getD i 0 % tot xs
def qAt (t : Int) (xs : List Int) (i : Nat) : Int := t * xs.getD i 0 / tot xs
def leftI (t : Int) (xs : List Int) : Int := t - tot (xs.map (fun x => t * x / tot xs))
def restAt (t : Int) (xs : List Int) (i : Nat) : Int := qAt t xs i + if (cntA (rAt t xs) i xs.length : Int) < leftI t xs then 1 else 0
def restL (t : Int) (xs : List Int) : List Int := if cShare t xs = true then (List.range xs.length).map (restAt t xs) else []

theorem restL_length (t : Int) (xs : List Int) : (restL t xs).length ≤ 8 := by
  unfold restL
  split
  · rename_i h
    have := (vParts_facts (cShare_facts h).2.2).1
    simp
    omega
  · simp

theorem mul_facts2 {t : Int} {xs : List Int} (t0 : 0 ≤ t) (t1 : t ≤ 100000) (hall : ∀ x ∈ xs, 0 ≤ x ∧ x ≤ 50) (k : Nat) (hk : k < xs.length) : 0 ≤ t * xs[k] ∧ t * xs[k] ≤ 5000000 := by
  have h := hall xs[k] (List.getElem_mem hk)
  have a : 0 ≤ t * xs[k] := Int.mul_nonneg t0 h.1
  have b : t * xs[k] ≤ 100000 * 50 := Int.mul_le_mul t1 h.2 h.1 (by omega)
  exact ⟨a, by omega⟩

theorem qAt_list (t : Int) (xs : List Int) : (List.range xs.length).map (qAt t xs) = xs.map (fun x => t * x / tot xs) := by
  apply List.ext_getElem
  · simp
  · intro i h1 h2
    have hi : i < xs.length := by simpa using h2
    simp [qAt, List.getD, hi]

theorem qr_facts {t : Int} {xs : List Int} (h : cShare t xs = true) (i : Nat) : (0 ≤ qAt t xs i ∧ qAt t xs i ≤ 5000000) ∧ 0 ≤ rAt t xs i ∧ rAt t xs i ≤ 400 := by
  obtain ⟨t0, t1, hvp⟩ := cShare_facts h
  obtain ⟨hlen, hall, s0, s1, hsf⟩ := vParts_facts hvp
  have hm : 0 ≤ t * xs.getD i 0 ∧ t * xs.getD i 0 ≤ 5000000 := by
    by_cases hi : i < xs.length
    · have := mul_facts2 t0 t1 hall i hi
      simpa [List.getD, hi] using this
    · simp [List.getD, hi]
  have a1 : 0 ≤ qAt t xs i := Int.ediv_nonneg hm.1 (by omega)
  have a2 : qAt t xs i ≤ t * xs.getD i 0 := Int.ediv_le_self _ hm.1
  have a3 : 0 ≤ rAt t xs i := Int.emod_nonneg _ (by omega)
  have a4 : rAt t xs i < tot xs := Int.emod_lt_of_pos _ (by omega)
  omega

theorem getD_range (n : Nat) (f : Nat → Int) (i : Nat) (h : i < n) : ((List.range n).map f).getD i 0 = f i := by
  simp [List.getD, h]

theorem set_range (n : Nat) (f g : Nat → Int) (m : Nat) (u : Int) (hm : g m = u) (h : ∀ j, j ≠ m → g j = f j) : ((List.range n).map f).set m u = (List.range n).map g := by
  apply List.ext_getElem
  · simp
  · intro i h1 h2
    rw [List.getElem_set]
    split
    · rename_i e
      subst e
      simp [hm]
    · rename_i e
      have := h i (fun x => e x.symm)
      simp [this]

theorem firstMax_start (f : Nat → Int) : FirstMax f 1 0 := by
  refine ⟨by omega, fun j hj => ?_, fun j hj => by omega⟩
  have : j = 0 := by omega
  subst this
  exact Int.le_refl _
theorem firstMax_take {f : Nat → Int} {n m : Nat} (h : FirstMax f n m) (hlt : f m < f n) : FirstMax f (n + 1) n := by
  refine ⟨by omega, fun j hj => ?_, fun j hj => ?_⟩
  · by_cases e : j = n
    · subst e; exact Int.le_refl _
    · have := h.2.1 j (by omega); omega
  · have := h.2.1 j hj; omega
theorem firstMax_keep {f : Nat → Int} {n m : Nat} (h : FirstMax f n m) (hge : f n ≤ f m) : FirstMax f (n + 1) m := by
  refine ⟨by have := h.1; omega, fun j hj => ?_, h.2.2⟩
  by_cases e : j = n
  · subst e; omega
  · exact h.2.1 j (by omega)

/-- A slice with elements has its shape. -/
theorem Own.shape {w : World} {B : Nat} {v : Value} {xs : List Int} (h : Own w B v xs) (hp : 0 < xs.length) : ∃ g cap, v = sl g xs.length cap := by
  rcases h.2 with ⟨_, h0⟩ | ⟨g, cap, cur, hv, _⟩
  · omega
  · exact ⟨g, cap, hv⟩

/-- The shares with p of them one more. -/
def outF (t : Int) (xs : List Int) (p : Nat → Bool) (i : Nat) : Int := qAt t xs i + if p i = true then 1 else 0

theorem outF_end {t : Int} {xs : List Int} {p : Nat → Bool} {k : Nat} (h : Inv (rAt t xs) xs.length p k) (hk : leftI t xs = k) : (List.range xs.length).map (outF t xs p) = (List.range xs.length).map (restAt t xs) := by
  apply List.map_congr_left
  intro i hi
  have hi' : i < xs.length := by simpa using hi
  have := inv_end h i hi'
  unfold outF restAt
  rw [hk]
  by_cases hp : p i = true
  · rw [if_pos hp, if_pos (by have := this.1 hp; omega)]
  · rw [if_neg hp, if_neg (by intro hx; exact hp (this.2 (by omega)))]

set_option maxHeartbeats 3200000 in
theorem largest_spec (t : Int) (v : Value) (xs : List Int) (w : World) (hv : IsInts w v xs) (h1 : cShare t xs = true) :
    Calls Tryz.prog 34 #[.int .i64 t, v] w fun e w' => ∃ v', e = .returned v' ∧ Own w' w.heap.size v' (restL t xs) ∧ Below w.heap.size w w' := by
  have hv' := hv
  obtain ⟨a, cap, rfl, hc⟩ := hv
  obtain ⟨t0, t1, hvp⟩ := cShare_facts h1
  obtain ⟨hlen, hall, s0, s1, hsf⟩ := vParts_facts hvp
  have HS := Lib.hid (show restL t xs = (List.range xs.length).map (restAt t xs) by rw [restL, if_pos h1])
  have hqr := fun i => qr_facts h1 i
  have HQ := Lib.hid hqr
  have hlb := left_bounds h1
  have hl : xs.length ≤ 9223372036854775807 := by omega
  have hb0 : Below w.heap.size w ((w.alloc (.cells #[] 3)).alloc (.cells #[] 3)) := ((Below.refl _ _).alloc (Nat.le_refl _) _).alloc (by simp) _
  have ho0 : Own ((w.alloc (.cells #[] 3)).alloc (.cells #[] 3)) w.heap.size (sl w.heap.size 0 0) [] := (own_empty w w.heap.size (Nat.le_refl _)).below ((Below.refl _ _).alloc (Nat.le_refl _) _)
  have ho1 : Own ((w.alloc (.cells #[] 3)).alloc (.cells #[] 3)) w.heap.size (sl (w.heap.size + 1) 0 0) [] := by
    have := own_empty (w.alloc (.cells #[] 3)) w.heap.size (by simp)
    simpa using this
  have hap : Apart (sl w.heap.size 0 0) (sl (w.heap.size + 1) 0 0) := .inr (by simp [Value.ownBlock])
  clear h1 hvp hqr
  go_enter Tryz.func34, Tryz.ntmps34
  go_wp2_with (go_at_call 48; refine (sum_spec _ _ _ hv' hl hsf).mono ?_; rintro e w' ⟨rfl, rfl⟩)
  go_loopw [6, 7, 8] (fun o q i wr => ∃ k : Nat, k ≤ xs.length ∧ i = .int .i64 k ∧ Own wr w.heap.size o ((List.range k).map (qAt t xs)) ∧ Own wr w.heap.size q ((List.range k).map (rAt t xs)) ∧ Apart o q ∧ Below w.heap.size w wr)
    (fun _ _ i _ => xs.length - (intOf i).toNat)
  case atStart => exact ⟨0, Nat.zero_le _, rfl, ho0, ho1, hap, hb0⟩
  case round =>
    obtain ⟨k, hk, rfl, hown, hownr, hapk, hbel⟩ := hrel
    have hsz := hbel.size
    clear ho0 hb0 ho1 hap
    by_cases hlt : k < xs.length
    · obtain ⟨b, off, rfl, hcell0⟩ := hc k hlt
      have hbb : b < w.heap.size := World.block_lt_of_cell? w _ hcell0
      have hcell : wr.cell? ⟨b, off + k, none⟩ = some (.int .i64 (xs.getD k 0)) := (hbel.cell (by exact hbb)).trans hcell0
      have hm := mul_facts2 t0 t1 hall k hlt
      have ex : xs.getD k 0 = xs[k] := by simp [List.getD, hlt]
      have e1 : (List.range k).map (qAt t xs) ++ [t * xs[k] / tot xs] = (List.range (k + 1)).map (qAt t xs) := by
        rw [List.range_succ, List.map_append, List.map_cons, List.map_nil, qAt, ex]
      have e2 : (List.range k).map (rAt t xs) ++ [t * xs[k] % tot xs] = (List.range (k + 1)).map (rAt t xs) := by
        rw [List.range_succ, List.map_append, List.map_cons, List.map_nil, rAt, ex]
      have E1 := Lib.hid e1
      have E2 := Lib.hid e2
      clear e1 e2 ex hc hv' hsf hall
      go_wp2_with (at_builtin; refine wpList_push hown (by simp; omega) hsz (h := ?_))
      intro v1 w1 hown1 hgr1 hm1
      have hb1 : Below w.heap.size w w1 := hbel.trans (hown.pushed_below hgr1 hsz)
      have hownr1 := hownr.kept hgr1 hapk.symm
      have hap1 : Apart u7 v1 := hapk.symm.moved hm1 hownr
      have hsz1 := hb1.size
      have hcell1 : w1.cell? ⟨b, off + k, none⟩ = some (.int .i64 (xs.getD k 0)) := (hb1.cell (by exact hbb)).trans hcell0
      rw [E1.out] at hown1
      clear hown hgr1 hm1 hownr hapk hbel hsz hcell
      go_wp2_with (at_builtin; refine wpList_push hownr1 (by simp; omega) hsz1 (h := ?_))
      intro v2 w2 hownr2 hgr2 hm2
      have hb2 : Below w.heap.size w w2 := hb1.trans (hownr1.pushed_below hgr2 hsz1)
      have hown2 := hown1.kept hgr2 hap1.symm
      have hap2 : Apart v1 v2 := hap1.symm.moved hm2 hown1
      rw [E2.out] at hownr2
      clear hown1 hgr2 hm2 hownr1 hap1 hb1 hsz1 hcell1
      go_wp2
      go_roundw
      case rel => exact ⟨k + 1, by omega, by go_num, hown2, hownr2, hap2, hb2⟩
      case measure => simp [intOf]; omega
    · have hk2 : k = xs.length := by omega
      subst hk2
      have hn0 : 0 < xs.length := by omega
      obtain ⟨go, co, hvo⟩ := hown.shape (by simpa using hn0)
      obtain ⟨gr, cr, hvr⟩ := hownr.shape (by simpa using hn0)
      rw [List.length_map, List.length_range] at hvo hvr
      subst hvo hvr
      have hgne : go ≠ gr := by
        rcases hapk with h | h
        · simp [Value.ownBlock] at h
        · simpa [Value.ownBlock] using h
      have hqb : ∀ x ∈ (List.range xs.length).map (qAt t xs), 0 ≤ x ∧ x ≤ 5000000 := by
        intro x hx
        obtain ⟨i, _, rfl⟩ := List.mem_map.1 hx
        exact (HQ.out i).1
      have hsq := sumFits_of _ 5000000 hqb (by omega) (by simp; omega)
      have hsumq : tot ((List.range xs.length).map (qAt t xs)) = t - leftI t xs := by
        rw [qAt_list]; unfold leftI; omega
      have hlb' : 0 ≤ leftI t xs ∧ leftI t xs < xs.length := hlb
      have HSQ := Lib.hid hsumq
      have hlq : ((List.range xs.length).map (qAt t xs)).length ≤ 9223372036854775807 := by simp; omega
      clear hc hv' hsf hall hqb hapk hsumq hlb
      go_wp2_with (go_at_call 48; refine (sum_spec _ _ _ hown.ints hlq hsq).mono ?_; rw [HSQ.out]; rintro e w' ⟨rfl, rfl⟩)
      have hown0 : Own wr w.heap.size (sl go xs.length co) ((List.range xs.length).map (outF t xs fun _ => false)) := by
        have : (List.range xs.length).map (outF t xs fun _ => false) = (List.range xs.length).map (qAt t xs) := by
          apply List.map_congr_left; intro i _; simp [outF]
        rw [this]; exact hown
      have hownr0 : Own wr w.heap.size (sl gr xs.length cr) ((List.range xs.length).map (restF (rAt t xs) fun _ => false)) := by
        have : (List.range xs.length).map (restF (rAt t xs) fun _ => false) = (List.range xs.length).map (rAt t xs) := by
          apply List.map_congr_left; intro i _; simp [restF]
        rw [this]; exact hownr
      have hinv0 := inv_start (rAt t xs) xs.length
      clear hown hownr
      go_loopw [9] (fun l wq => ∃ (k : Nat) (p : Nat → Bool), (k : Int) ≤ leftI t xs ∧ l = .int .i64 (leftI t xs - k) ∧ Inv (rAt t xs) xs.length p k ∧ Own wq w.heap.size (sl go xs.length co) ((List.range xs.length).map (outF t xs p)) ∧ Own wq w.heap.size (sl gr xs.length cr) ((List.range xs.length).map (restF (rAt t xs) p)) ∧ Below w.heap.size w wq)
        (fun l _ => (intOf l).toNat)
      case atStart => exact ⟨0, _, hlb'.1, congrArg (Value.int .i64) (by omega), hinv0, hown0, hownr0, hbel⟩
      case round =>
        clear hown0 hownr0 hinv0 hbel hsz hsq
        obtain ⟨k, p, hk, rfl, hinv, hown, hownr, hbel⟩ := hrel
        have HI := Lib.hid hinv
        clear hinv
        by_cases hlt : (0 : Int) < leftI t xs - k
        · obtain ⟨wo, rfl⟩ : ∃ wo : World, wo = wr := ⟨_, rfl⟩
          have hszo := hbel.size
          go_wp2
          go_loopw [10, 11] (fun at' i wi => ∃ m n : Nat, n ≤ xs.length ∧ at' = .int .i64 m ∧ i = .int .i64 n ∧ FirstMax (restF (rAt t xs) p) n m ∧ Below wo.heap.size wo wi)
            (fun _ i _ => xs.length - (intOf i).toNat)
          case atStart => exact ⟨0, 1, by omega, rfl, rfl, firstMax_start _, Below.refl _ _⟩
          case round =>
            obtain ⟨m, n, hnl, rfl, rfl, hfm, hbi⟩ := hrel
            have hmn : m < n := hfm.1
            have HF := Lib.hid hfm
            clear hfm
            by_cases hni : n < xs.length
            · have hbor := hownr.baseLe
              have hcn : wr.cell? ⟨gr, n, none⟩ = some (.int .i64 (restF (rAt t xs) p n)) := by
                rw [← getD_range xs.length (restF (rAt t xs) p) n hni]
                exact (hbi.cell (by exact hbor.2)).trans (hownr.cell (by simp) n hni)
              have hcm : wr.cell? ⟨gr, m, none⟩ = some (.int .i64 (restF (rAt t xs) p m)) := by
                rw [← getD_range xs.length (restF (rAt t xs) p) m (by omega)]
                exact (hbi.cell (by exact hbor.2)).trans (hownr.cell (by simp) m (by omega))
              have i1 : (n : Int) < (xs.length : Int) := by omega
              have i2 : (m : Int) < (xs.length : Int) := by omega
              by_cases hgt : restF (rAt t xs) p m < restF (rAt t xs) p n
              · have HG := Lib.hid hgt
                go_wp2
                go_quiet (fail)
                go_wp2
                go_roundw
                case rel => exact ⟨n, n + 1, by omega, rfl, by go_num, firstMax_take HF.out HG.out, below_drewN hbi _⟩
                case measure => simp [intOf]; omega
              · have HG := Lib.hid (show restF (rAt t xs) p n ≤ restF (rAt t xs) p m by omega)
                have hdec : decide (restF (rAt t xs) p m < restF (rAt t xs) p n) = false := decide_eq_false hgt
                clear hgt
                go_wp2
                go_quiet (fail)
                go_wp2
                go_roundw
                case rel => exact ⟨m, n + 1, by omega, rfl, by go_num, firstMax_keep HF.out HG.out, below_drewN hbi _⟩
                case measure => simp [intOf]; omega
            · have hn2 : n = xs.length := by omega
              have hfm := HF.out
              rw [hn2] at hfm
              have hml : m < xs.length := hfm.1
              have hkn : k < xs.length := by omega
              obtain ⟨hpm, hinv'⟩ := inv_step (fun j _ => (HQ.out j).2.1) HI.out hkn hfm
              have o1 := hown.below hbi
              have r1 := hownr.below hbi
              have hb1 : Below w.heap.size w wr := hbel.trans (hbi.mono hszo)
              have hco := o1.cell (by simp) m hml
              rw [getD_range _ _ _ hml] at hco
              have hfo := o1.frozen (by simp) m
              have hq := (HQ.out m).1
              have eo : outF t xs p m = qAt t xs m := by simp [outF, hpm]
              rw [eo] at hco
              have st1 := o1.set (by simp) m (qAt t xs m + 1)
              rw [set_range xs.length (outF t xs p) (outF t xs fun j => p j || decide (j = m)) m (qAt t xs m + 1) (by simp [outF]) (fun j hj => by simp [outF, hj])] at st1
              have r2 := r1.kept st1.2 (.inr (by simpa [Value.ownBlock] using fun e => hgne e.symm))
              have hcr := r2.cell (by simp) m hml
              have hfr := r2.frozen (by simp) m
              have hb2 : Below w.heap.size w _ := hb1.trans (below_grown st1.2 hb1.size (fun q hq => by cases hq; exact o1.baseLe.1))
              have st2 := r2.set (by simp) m (-1)
              rw [set_range xs.length (restF (rAt t xs) p) (restF (rAt t xs) fun j => p j || decide (j = m)) m (-1) (by simp [restF]) (fun j hj => by simp [restF, hj])] at st2
              have o3 := st1.1.kept st2.2 (.inr (by simpa [Value.ownBlock] using hgne))
              have hb3 : Below w.heap.size w _ := hb2.trans (below_grown st2.2 hb2.size (fun q hq => by cases hq; exact r2.baseLe.1))
              have O3 := Lib.hid o3
              have R3 := Lib.hid st2.1
              have HI3 := Lib.hid hinv'
              have il : (m : Int) < (xs.length : Int) := by omega
              clear hfm hinv' o1 r1 st1 st2 r2 o3 eo hpm hn2
              go_wp2
              go_roundw
              case rel => exact ⟨k + 1, _, by omega, congrArg (Value.int .i64) (by omega), HI3.out, O3.out, R3.out, hb3⟩
              case measure => simp [intOf]; omega
        · have hle : leftI t xs = k := by omega
          have hfin := outF_end HI.out hle
          rw [hfin, ← HS.out] at hown
          clear hfin hle
          go_wp2
          go_ret
          exact ⟨_, rfl, hown, hbel⟩

end Go.Proofs.YtpenbkfchgeafaaGreatDoor

namespace Go.Proofs.YtpenbkfchgeafaaGreatDoor
open Go.RowKit

theorem best_bounds {cs P : List Int} (hp : Pos cs) (hP : ∀ c ∈ P, c ∈ cs) {x b : Int} (hx : 0 ≤ x) (h : Best cs P x b) : -1 ≤ b ∧ b ≤ x := by
  rcases h with ⟨h1, _⟩ | ⟨h1, ⟨d, hd, h2, h3⟩, _⟩
  · omega
  · have := fw_bound hp h2
    have := hp d (hP d hd)
    omega

/-- The coins from one on that is too great are too great. -/
theorem best_cut {cs : List Int} (h : vCoins cs = true) {i : Nat} (hi : i < cs.length) {x b : Int} (hx : 1 ≤ x) (hlt : x < cs.getD i 0) (hb : Best cs (cs.take i) x b) : fwV cs x = b := by
  refine best_all (vc_pos h) hx ?_
  have := best_rest (Q := cs.drop i) (vc_pos h) hb (fun c hc => by
    obtain ⟨j, hj, rfl⟩ := List.getElem_of_mem hc
    rw [List.length_drop] at hj
    rw [List.getElem_drop]
    have e : cs[i + j] = cs.getD (i + j) 0 := by simp [List.getD, show i + j < cs.length by omega]
    rw [e]
    by_cases h0 : j = 0
    · subst h0; exact hlt
    · have := vc_lt h (i + j) i (by omega) (by omega)
      omega)
  rwa [List.take_append_drop] at this

theorem fw_start {cs : List Int} (hp : Pos cs) (n : Nat) : List.replicate (n + 1) (0 : Int) = stL (fun _ => 0) (fwV cs) 1 n := by
  apply List.ext_getElem
  · simp [stL]
  · intro i h1 h2
    simp only [stL, List.getElem_map, List.getElem_range, List.getElem_replicate]
    by_cases h : i < 1
    · have : i = 0 := by omega
      subst this
      rw [if_pos h]
      exact (fw_zero hp).symm
    · rw [if_neg h]

theorem set_setI (xs : List Int) (i : Nat) (u v : Int) : (xs.set i u).set i v = xs.set i v := List.set_set u ..

set_option maxRecDepth 100000 in
set_option maxHeartbeats 3200000 in
theorem fewest_spec (v : Value) (cs : List Int) (n : Nat) (w : World) (hv : IsInts w v cs) (hcs : vCoins cs = true) (hn : n ≤ 1020) :
    Calls Tryz.prog 50 #[v, .int .i64 (n : Int)] w fun e w' => ∃ v', e = .returned v' ∧ Own w' w.heap.size v' (tabL (fwV cs) n) ∧ Below w.heap.size w w' := by
  obtain ⟨l1, l5⟩ := vc_len hcs
  obtain ⟨b, off, cap, rfl, hbw, hc⟩ := hv.at0 l1
  have HC := Lib.hid hc
  have HAT := Lib.hid (fun (i : Nat) => vc_at hcs (i := i))
  have hp := vc_pos hcs
  have HFB : Hid (∀ x : Nat, -1 ≤ fwV cs (x : Int) ∧ fwV cs (x : Int) ≤ x) := fun x => by
    have := fw_ge hp (x : Int)
    by_cases h : 0 ≤ fwV cs (x : Int)
    · exact ⟨this, fw_bound hp h⟩
    · omega
  have HBB : Hid (∀ (i x : Nat) (r : Int), Best cs (cs.take i) x r → -1 ≤ r ∧ r ≤ x) := fun i x r h => best_bounds hp (fun c hc => take_mem hc) (by omega) h
  have HBT : Hid (∀ (i x : Nat) (r : Int), i < cs.length → Best cs (cs.take i) x r → 0 ≤ fwV cs ((x : Int) - cs.getD i 0) → (r < 0 ∨ fwV cs ((x : Int) - cs.getD i 0) + 1 < r) → Best cs (cs.take (i + 1)) x (fwV cs ((x : Int) - cs.getD i 0) + 1)) := fun i x r hi h h1 h2 => by
    rw [take_snoc cs hi]; exact best_take h h1 h2
  have HBK : Hid (∀ (i x : Nat) (r : Int), i < cs.length → Best cs (cs.take i) x r → ¬ (0 ≤ fwV cs ((x : Int) - cs.getD i 0) ∧ (r < 0 ∨ fwV cs ((x : Int) - cs.getD i 0) + 1 < r)) → Best cs (cs.take (i + 1)) x r) := fun i x r hi h h1 => by
    rw [take_snoc cs hi]; exact best_keep h h1
  have HBC : Hid (∀ (i x : Nat) (r : Int), i < cs.length → 1 ≤ x → (x : Int) < cs.getD i 0 → Best cs (cs.take i) x r → fwV cs (x : Int) = r) := fun i x r hi h1 h2 h3 => best_cut hcs hi (by omega) h2 h3
  have HBA : Hid (∀ (x : Nat) (r : Int), 1 ≤ x → Best cs (cs.take cs.length) x r → fwV cs (x : Int) = r) := fun x r h1 h2 => by
    rw [List.take_length] at h2; exact best_all hp (by omega) h2
  have HB0 : Hid (∀ x : Nat, Best cs (cs.take 0) x (-1)) := fun x => by rw [List.take_zero]; exact best_nil _ _
  have hst := fw_start hp n
  obtain ⟨i0, hi, hz0, hz1, hz2⟩ := info_parts infoInt
  clear hc hp
  go_enter Tryz.func50, Tryz.ntmps50
  go_wp2_with (at_make; refine wpList_make_full _ rfl _ _ 35 rfl w.heap.size 3 i0 (.int .i64 0) 1 Tryz.underlying35 hi hz0 hz1 _ _ _ _ (n + 1) rfl rfl rfl rfl ?b2 ?b3 (Nat.le_refl _) ?_)
  case b2 => rw [hz2]; omega
  case b3 => unfold maxLen; omega
  intro w0 hown0 hgrow0
  have hb0 : Below w.heap.size w w0 := below_grown hgrow0 (Nat.le_refl _) (fun k h => by cases h)
  have hw0 : Own w0 w.heap.size (sl w.heap.size (n + 1) (n + 1)) (stL (fun _ => 0) (fwV cs) 1 n) := by rw [← hst]; exact own_made hown0
  clear hown0 hgrow0 hst
  go_wp2
  go_loopw [6, 7, 8] (fun xv _ _ wr => ∃ x : Nat, 1 ≤ x ∧ x ≤ n + 1 ∧ xv = .int .i64 x ∧ Own wr w.heap.size (sl w.heap.size (n + 1) (n + 1)) (stL (fun _ => 0) (fwV cs) x n) ∧ Below w.heap.size w wr) (fun xv _ _ _ => n + 1 - (intOf xv).toNat)
  case atStart => exact ⟨1, Nat.le_refl _, by omega, rfl, hw0, hb0⟩
  case round =>
    clear hw0 hb0
    obtain ⟨x, hx1, hxn, rfl, hown, hbl⟩ := hrel
    rename World => wr
    by_cases hx : x ≤ n
    · have x1 : (x : Int) ≤ (n : Int) := by omega
      have x2 : (x : Int) < (n : Int) + 1 := by omega
      have c1 := hown.cell (by simp [stL]) x (by omega)
      have f1 := hown.frozen (by simp [stL]) x
      have hs := (hown.set (by simp [stL]) x (-1)).1
      have bw : Below w.heap.size w (wr.setCell ⟨w.heap.size, x, none⟩ (.int .i64 (-1))) := hbl.setCell (by exact Nat.le_refl _) _
      have HS := Lib.hid hs
      have HST : Hid (∀ r, fwV cs (x : Int) = r → (stL (fun _ => 0) (fwV cs) x n).set x r = stL (fun _ => 0) (fwV cs) (x + 1) n) := fun r h => by rw [← h]; exact stL_set _ _ hx
      have HGT : Hid (∀ (j : Nat) (r : Int), j < x → ((stL (fun _ => 0) (fwV cs) x n).set x r).getD j 0 = fwV cs (j : Int)) := fun j r h => by
        rw [getD_setI _ _ _ _ (by simp [stL]; omega), if_neg (by omega), stL_at _ _ _ (by omega), if_pos h]
      have HGX : Hid (∀ r : Int, ((stL (fun _ => 0) (fwV cs) x n).set x r).getD x 0 = r) := fun r => by
        rw [getD_setI _ _ _ _ (by simp [stL]; omega), if_pos rfl]
      have HLN : Hid (∀ r : Int, ((stL (fun _ => 0) (fwV cs) x n).set x r).length = n + 1) := fun r => by simp [stL]
      have HSS : Hid (∀ r s : Int, ((stL (fun _ => 0) (fwV cs) x n).set x r).set x s = (stL (fun _ => 0) (fwV cs) x n).set x s) := fun r s => set_setI _ _ _ _
      generalize stL (fun _ => 0) (fwV cs) x n = L at *
      clear hs hown
      go_wp2
      go_loopw [7, 8] (fun iv _ wx => ∃ (i : Nat) (r : Int), i ≤ cs.length ∧ iv = .int .i64 i ∧ Best cs (cs.take i) x r ∧ Own wx w.heap.size (sl w.heap.size (n + 1) (n + 1)) (L.set x r) ∧ Below w.heap.size w wx) (fun iv _ _ => cs.length - (intOf iv).toNat)
      case atStart => exact ⟨0, -1, Nat.zero_le _, rfl, HB0.out x, HS.out, bw⟩
      case round =>
        clear HS bw hbl c1 f1
        obtain ⟨i, r, hi, rfl, hbest, hown, hbl⟩ := hrel
        rename World => wx
        by_cases hlt : i < cs.length
        · have i1 : (i : Int) < (cs.length : Int) := by omega
          have ci := (hbl.cell (p := ⟨b, off + i, none⟩) hbw).trans (HC.out i hlt)
          have hat := HAT.out i hlt
          obtain ⟨c, hcn⟩ : ∃ c : Nat, cs.getD i 0 = c := ⟨(cs.getD i 0).toNat, by omega⟩
          have hbt := HBT.out i x r hlt hbest
          have hbk := HBK.out i x r hlt hbest
          have hbc := HBC.out i x r hlt hx1
          rw [hcn] at ci hat hbt hbk hbc
          clear hcn
          by_cases hle : c ≤ x
          · have x3 : (c : Int) ≤ (x : Int) := by omega
            have x4 : (0 : Int) ≤ (x : Int) - (c : Int) := by omega
            have x5 : (x : Int) - (c : Int) < (n : Int) + 1 := by omega
            have x6 : ((x : Int) - (c : Int)).toNat = x - c := by omega
            have c2 := hown.cell (HLN.out r) (x - c) (by omega)
            rw [HGT.out (x - c) r (by omega)] at c2
            have c3 := hown.cell (HLN.out r) x (by omega)
            rw [HGX.out r] at c3
            have f3 := hown.frozen (HLN.out r) x
            have hfb := HFB.out (x - c)
            have hrb := HBB.out i x r hbest
            rw [show ((x : Int) - (c : Int)) = ((x - c : Nat) : Int) by omega] at hbt hbk
            have hs := (hown.set (HLN.out r) x (fwV cs ((x - c : Nat) : Int) + 1)).1
            rw [HSS.out] at hs
            generalize fwV cs ((x - c : Nat) : Int) = m at *
            have bw : Below w.heap.size w (wx.setCell ⟨w.heap.size, x, none⟩ (.int .i64 (m + 1))) := hbl.setCell (by exact Nat.le_refl _) _
            have HO := Lib.hid hown
            have HS2 := Lib.hid hs
            have HBT2 := Lib.hid hbt
            have HBK2 := Lib.hid hbk
            clear hown hs hbt hbk hbc hbest
            by_cases h0 : 0 ≤ m
            · by_cases h1 : r < 0
              · have HN := Lib.hid (HBT2.out h0 (.inl h1))
                go_wp2
                go_roundw
                case rel => exact ⟨i + 1, m + 1, by omega, by go_num, HN.out, HS2.out, bw⟩
                case measure => simp [intOf]; omega
              · by_cases h2 : m + 1 < r
                · have HN := Lib.hid (HBT2.out h0 (.inr h2))
                  go_wp2
                  go_roundw
                  case rel => exact ⟨i + 1, m + 1, by omega, by go_num, HN.out, HS2.out, bw⟩
                  case measure => simp [intOf]; omega
                · have HN := Lib.hid (HBK2.out (fun h => h.2.elim h1 h2))
                  go_wp2
                  go_roundw
                  case rel => exact ⟨i + 1, r, by omega, by go_num, HN.out, HO.out, hbl⟩
                  case measure => simp [intOf]; omega
            · have HN := Lib.hid (HBK2.out (fun h => h0 h.1))
              go_wp2
              go_roundw
              case rel => exact ⟨i + 1, r, by omega, by go_num, HN.out, HO.out, hbl⟩
              case measure => simp [intOf]; omega
          · have x3 : ¬ (c : Int) ≤ (x : Int) := by omega
            rw [HST.out r (hbc (by omega) hbest)] at hown
            clear hbt hbk hbc hbest
            go_wp2
            go_roundw
            case rel => exact ⟨x + 1, by omega, by omega, by go_num, hown, hbl⟩
            case measure => simp [intOf]; omega
        · have hie : i = cs.length := by omega
          subst hie
          rw [HST.out r (HBA.out x r hx1 hbest)] at hown
          clear hbest
          go_wp2
          go_roundw
          case rel => exact ⟨x + 1, by omega, by omega, by go_num, hown, hbl⟩
          case measure => simp [intOf]; omega
    · have x1 : ¬ (x : Int) ≤ (n : Int) := by omega
      rw [stL_end _ _ (by omega)] at hown
      go_wp2
      go_ret
      exact ⟨_, rfl, hown, hbl⟩

end Go.Proofs.YtpenbkfchgeafaaGreatDoor

namespace Go.Proofs.YtpenbkfchgeafaaGreatDoor
open Go.RowKit

/-- Is there an answer of FewestCoins? -/
def cFew (cs : List Int) (a : Int) : Bool := vCoins cs && inR a 0 120 && decide (0 ≤ fwV cs a)
/-- The list that FewestCoins answers. -/
def fewL (cs : List Int) (a : Int) : List Int := if cFew cs a = true then fcL cs a else []
/-- The number that FewestCoins answers. -/
def fewN (cs : List Int) (a : Int) : Int := if cFew cs a = true then fwV cs a else 0

theorem cntR_app (cs : List Int) {i : Nat} (h : i < cs.length) (x : Int) (Q : List Int) :
    cntR cs (cs.take (i + 1)).reverse x ++ Q = cntR cs (cs.take i).reverse (x - takeC cs (cs.getD i 0) x * cs.getD i 0) ++ ((takeC cs (cs.getD i 0) x : Nat) : Int) :: Q := by
  rw [take_snoc cs h, List.reverse_append]
  show cntR cs (cs.getD i 0 :: (cs.take i).reverse) x ++ Q = _
  rw [cntR, List.append_assoc]
  rfl

theorem rep_set (i : Nat) (k : Int) (Q : List Int) (u : Int) : (List.replicate i (0 : Int) ++ u :: Q).set i k = List.replicate i (0 : Int) ++ k :: Q := by
  rw [List.set_append_right _ _ (by simp)]
  simp

theorem rep_get (i : Nat) (u : Int) (Q : List Int) : (List.replicate i (0 : Int) ++ u :: Q).getD i 0 = u := by
  rw [List.getD_eq_getElem?_getD, List.getElem?_append_right (by simp)]
  simp

theorem rep_succ (i : Nat) (Q : List Int) : List.replicate (i + 1) (0 : Int) ++ Q = List.replicate i (0 : Int) ++ 0 :: Q := by
  rw [List.replicate_succ', List.append_assoc]
  rfl

theorem take_less {cs : List Int} (hp : Pos cs) {c x : Int} (hc : c ∈ cs) (h0 : 0 ≤ x) (k : Nat) (hk : k ≤ takeC cs c x) : (k : Int) * c ≤ x := by
  have : ∀ (n : Nat) (x : Int), x.toNat ≤ n → 0 ≤ x → ((takeC cs c x : Nat) : Int) * c ≤ x := by
    intro n
    induction n with
    | zero =>
      intro x hn h0
      have := hp c hc
      rw [takeC_end (hp c hc) (by omega)]
      simpa using h0
    | succ n ih =>
      intro x hn h0
      have := hp c hc
      by_cases h : c ≤ x ∧ fwV cs (x - c) = fwV cs x - 1
      · rw [takeC_more (hp c hc) h.1 h.2]
        have := ih (x - c) (by omega) (by omega)
        rw [Int.natCast_add, Int.add_mul]
        omega
      · rw [takeC_end (hp c hc) h]
        simpa using h0
  have h1 := this _ x (Nat.le_refl _) h0
  have h2 := Int.mul_le_mul_of_nonneg_right (show (k : Int) ≤ (takeC cs c x : Nat) by omega) (show 0 ≤ c by have := hp c hc; omega)
  omega

theorem cFew_no1 {cs : List Int} {a : Int} (h : vCoins cs = false) : cFew cs a = false := by unfold cFew; rw [h]; rfl
theorem cFew_no2 {cs : List Int} {a : Int} (h : inR a 0 120 = false) : cFew cs a = false := by unfold cFew; rw [h]; simp
theorem cFew_no3 {cs : List Int} {a : Int} (h : fwV cs a < 0) : cFew cs a = false := by unfold cFew; rw [decide_eq_false (show ¬ 0 ≤ fwV cs a by omega)]; simp
theorem cFew_yes {cs : List Int} {a : Int} (h1 : vCoins cs = true) (h2 : inR a 0 120 = true) (h3 : 0 ≤ fwV cs a) : cFew cs a = true := by unfold cFew; rw [h1, h2, decide_eq_true h3]; rfl
theorem cFew_facts {cs : List Int} {a : Int} (h : cFew cs a = true) : vCoins cs = true ∧ (0 ≤ a ∧ a ≤ 120) ∧ 0 ≤ fwV cs a := by
  unfold cFew at h
  rw [Bool.and_eq_true, Bool.and_eq_true, decide_eq_true_iff] at h
  exact ⟨h.1.1, inR_true h.1.2, h.2⟩

theorem ret_few {a a' : Int} {v : Value} {r r' : Bool} (h1 : a = a') (h2 : r = r') : Ending.returned (.tuple #[.int .i64 a, v, .bool r]) = .returned (.tuple #[.int .i64 a', v, .bool r']) := by rw [h1, h2]

end Go.Proofs.YtpenbkfchgeafaaGreatDoor

namespace Go.Proofs.YtpenbkfchgeafaaGreatDoor
open Go.RowKit

theorem infoStr : (Tryz.prog.info? 9).map (fun i => (i.zero, i.size, i.bytes)) = some (some (.string ByteArray.empty), 1, 16) := by kernel_rfl
/-- v is a slice of the strings ps. -/
def IsStrs (w : World) (v : Value) (ps : List ByteArray) : Prop := ∃ a cap, v = .slice a ps.length cap ∧ ∀ j, j < ps.length → ∃ b off, a = some ⟨b, off, none⟩ ∧ w.cell? ⟨b, off + j, none⟩ = some (.string (ps.getD j ByteArray.empty))
def OwnStr (w : World) (B : Nat) (v : Value) (ps : List ByteArray) : Prop := w.ownsRow B 9 1 v ps.length (ps.map Value.string)
theorem OwnStr.below {w w' : World} {B : Nat} {v : Value} {xs : List ByteArray} (h : OwnStr w B v xs) (hb : Below w.heap.size w w') : OwnStr w' B v xs :=
  World.ownsRow.kept h (grown_below hb none) (by cases hv : v.ownBlock <;> simp)


theorem OwnStr.base {w : World} {B B' : Nat} {v : Value} {xs : List ByteArray} (h : OwnStr w B v xs) (hb : B' ≤ B) : OwnStr w B' v xs := by
  refine ⟨h.1, ?_⟩
  rcases h.2 with hn | ⟨g, cap, cur, hv, hg, rest⟩
  · exact .inl hn
  · exact .inr ⟨g, cap, cur, hv, by omega, rest⟩


theorem OwnStr.strs {w : World} {B : Nat} {v : Value} {xs : List ByteArray} (h : OwnStr w B v xs) : IsStrs w v xs := by
  have h0 := h
  rcases h.2 with ⟨rfl, hn⟩ | ⟨g, cap, cur, rfl, _⟩
  · exact ⟨none, 0, by rw [hn], fun j hj => by omega⟩
  · refine ⟨_, cap, rfl, fun j hj => ⟨g, 0, rfl, ?_⟩⟩
    have := World.ownsRow.cellAt h0 j (by omega)
    rw [Nat.zero_add, this]
    simp [List.getD, hj]


theorem OwnStr.lt {w : World} {B : Nat} {v : Value} {xs : List ByteArray} (h : OwnStr w B v xs) : ∀ k, v.ownBlock = some k → B ≤ k ∧ k < w.heap.size := World.ownsRow.lt h

/-- Behind a write into the block of another slice. -/
theorem OwnStr.kept {w w' : World} {B : Nat} {v : Value} {xs : List ByteArray} {row : Option Nat} (h : OwnStr w B v xs) (hg : w.grownBy w' row) (hne : v.ownBlock = none ∨ v.ownBlock ≠ row) : OwnStr w' B v xs := World.ownsRow.kept h hg hne


theorem OwnStr.cell {w : World} {B g n cap : Nat} {xs : List ByteArray} (h : OwnStr w B (sl g n cap) xs) (hn : xs.length = n) (j : Nat) (hj : j < n) : w.cell? ⟨g, j, none⟩ = some (.string (xs.getD j ByteArray.empty)) := by
  subst hn
  rw [World.ownsRow.cellAt h j (by omega)]
  simp [List.getD, hj]

theorem OwnStr.frozen {w : World} {B g n cap : Nat} {xs : List ByteArray} (h : OwnStr w B (sl g n cap) xs) (hn : xs.length = n) (j : Nat) : w.frozen? ⟨g, j, none⟩ = false := by
  subst hn
  exact World.ownsRow.frozenAt h j


theorem OwnStr.baseLe {w : World} {B g n cap : Nat} {xs : List ByteArray} (h : OwnStr w B (sl g n cap) xs) : B ≤ g ∧ g < w.heap.size := h.lt g rfl


/-- []string{} -/
theorem own_emptyS (w : World) (B : Nat) (hB : B ≤ w.heap.size) : OwnStr (w.alloc (.cells #[] 9)) B (sl w.heap.size 0 0) [] :=
  World.ownsRow_lit w #[] 0 hB (by unfold maxLen; omega) rfl


theorem OwnStr.pushed_below {w w' : World} {B : Nat} {v : Value} {xs : List ByteArray} (h : OwnStr w B v xs) (hg : w.grownBy w' v.ownBlock) (hB : B ≤ w.heap.size) : Below B w w' :=
  below_grown hg hB (fun k hk => (h.lt k hk).1)

/-- append(s, y) on a slice of the call's own: 'refine wpList_pushS hown hlen hB (h := ?_)'. -/
theorem wpList_pushS {ops : Array Oper} {rest : List Oper} {o : Oper} {a : Act} {Q : Exit → Act → World → Prop} {wr : World} {s x : Operand} {B : Nat} {v : Value} {xs : List ByteArray} {y : ByteArray}
    (hown : OwnStr wr B v xs) (hlen : xs.length ≤ 1048576) (hB : B ≤ wr.heap.size) (hgd : o.guard = none := by rfl)
    (ho : o.op = .call { callee := .builtin .append, args := #[s, x], argTypes := #[23, 23] } := by rfl)
    (hs : a.eval s = v := by rfl) (hx : a.eval x = .slice (some ⟨wr.heap.size, 0, none⟩) 1 1 := by rfl)
    (h : ∀ v' w', OwnStr w' B v' (xs ++ [y]) → wr.grownBy w' v.ownBlock → Moved wr v v' → wpList Tryz.prog ops Q rest (a.put o.dst v') w') :
    wpList Tryz.prog ops Q (o :: rest) a (wr.alloc (.cells #[.string y] 9)) := by
  obtain ⟨i0, hi, hz0, hz1, hz2⟩ := info_parts infoStr
  refine wpList_append_own_at _ hgd s x 23 ho B 9 i0 (.string ByteArray.empty) 1 16 Tryz.underlying23 hi hz0 hz1 hz2 rfl (by decide) v xs.length (xs.map (Value.string)) hs (World.ownsRow.alloc hown _) ⟨wr.heap.size, 0, none⟩ 1 1 [.string y] hx rfl (cell_one_new _ _ _) (by intro u hu; simp at hu; subst hu; rfl) (by unfold maxLen; omega) (by omega) (by simp; omega) ?_
  intro v' w' h1 h2 _ h4
  refine h v' w' ?_ ((World.grownBy_alloc wr _ _).trans h2) ?_
  · unfold OwnStr
    rw [List.map_append, List.length_append]
    exact h1
  · rcases h4 with h4 | h4
    · exact .inl h4
    · exact .inr ⟨_, h4, by simp⟩

end Go.Proofs.YtpenbkfchgeafaaGreatDoor

namespace Go.Proofs.YtpenbkfchgeafaaGreatDoor
open Go.RowKit

theorem grR_app {cs : List Int} {i : Nat} (h : i < cs.length) (x : Int) (Q : List Int) :
    grR (cs.take (i + 1)).reverse x ++ Q = grR (cs.take i).reverse (x % cs.getD i 0) ++ (x / cs.getD i 0) :: Q := by
  rw [take_snoc cs h, List.reverse_append]
  show grR (cs.getD i 0 :: (cs.take i).reverse) x ++ Q = _
  rw [grR, List.append_assoc]
  rfl

/-- Is there an answer of GreedyCoins? -/
def cGre (cs : List Int) (a : Int) : Bool := vCoins cs && decide (cs.getD 0 0 = 1) && inR a 0 120
/-- What GreedyCoins answers. -/
def greL (cs : List Int) (a : Int) : List Int := if cGre cs a = true then grL cs a else []

/-- Does the greedy way always need the fewest? -/
def isgV (cs : List Int) : Bool := vCoins cs && decide (cs.getD 0 0 = 1) && isgT cs (endV cs).toNat

theorem endV_le {cs : List Int} (h : vCoins cs = true) : endV cs ≤ ((2 * cs.getD (cs.length - 1) 0 + 1).toNat : Nat) := by
  obtain ⟨l1, l5⟩ := vc_len h
  have h2 : cs.drop (cs.length - 2) = if cs.length = 1 then [cs.getD 0 0] else [cs.getD (cs.length - 2) 0, cs.getD (cs.length - 1) 0] := by
    apply List.ext_getElem
    · rw [List.length_drop]; split <;> simp <;> omega
    · intro i h1 h2
      rw [List.length_drop] at h1
      rw [List.getElem_drop]
      have e : ∀ j, (hj : j < cs.length) → cs[j] = cs.getD j 0 := fun j hj => by simp [List.getD, hj]
      rw [e]
      split
      · rename_i hl
        have : i = 0 := by omega
        subst this
        simp [hl]
      · rename_i hl
        rcases (show i = 0 ∨ i = 1 by omega) with rfl | rfl
        · rfl
        · have : cs.length - 2 + 1 = cs.length - 1 := by omega
          simp [this]
  unfold endV
  rw [h2]
  have a1 := vc_at h (i := cs.length - 1) (by omega)
  split
  · rename_i hl
    rw [hl] at a1 ⊢
    simp at a1 ⊢
    omega
  · rename_i hl
    have := vc_lt h (cs.length - 1) (cs.length - 2) (by omega) (by omega)
    have a2 := vc_at h (i := cs.length - 2) (by omega)
    simp only [List.sum_cons, List.sum_nil]
    omega

theorem isgV_is {cs : List Int} (h : vCoins cs = true) (h1 : cs.getD 0 0 = 1) {t : Nat} (ht : endV cs ≤ t) : isgV cs = isgT cs t := by
  unfold isgV
  rw [h, decide_eq_true h1, Bool.true_and, Bool.true_and]
  exact isgT_eq (vc_pos h) (by rw [vc_head h, h1]) (vc_sorted h) (by omega) ht

end Go.Proofs.YtpenbkfchgeafaaGreatDoor

namespace Go.Proofs.YtpenbkfchgeafaaGreatDoor
open Go.RowKit

set_option maxRecDepth 100000 in
set_option maxHeartbeats 3200000 in
theorem FewestCoins_spec (v : Value) (cs : List Int) (a : Int) (w : World) (hv : IsInts w v cs) (hl : cs.length ≤ 9223372036854775807) :
    Calls Tryz.prog 39 #[v, .int .i64 a] w fun e w' => ∃ v', e = .returned (.tuple #[.int .i64 (fewN cs a), v', .bool (cFew cs a)]) ∧ Own w' w.heap.size v' (fewL cs a) ∧ Below w.heap.size w w' := by
  have HVC := Lib.hid (fun r => validCoins_sat v cs r w hv hl)
  have HCC := Lib.hid inRange_sat
  have HNO : Hid (cFew cs a = false → fewN cs a = 0 ∧ fewL cs a = []) := fun h => by unfold fewN fewL; rw [h]; exact ⟨rfl, rfl⟩
  cases h1 : vCoins cs
  · have E := Lib.hid (cFew_no1 (a := a) h1)
    go_enter Tryz.func39, Tryz.ntmps39
    go_wp2_with (go_at_call 37; refine (HVC.out _ h1).mono ?_; rintro e w' ⟨rfl, hd⟩)
    go_ret3
    exact ⟨_, ret_few (HNO.out E.out).1.symm E.out.symm, by rw [(HNO.out E.out).2]; exact own_nil _ _, hd.below⟩
  cases h2 : inR a 0 120
  · have E := Lib.hid (cFew_no2 (cs := cs) h2)
    go_enter Tryz.func39, Tryz.ntmps39
    go_wp2_with (first | (go_at_call 37; refine (HVC.out _ h1).mono ?_; rintro e w' ⟨rfl, hd⟩) | (go_at_call 38; refine (HCC.out _ _ _ _ _ h2).mono ?_; rintro e w' ⟨rfl, rfl⟩))
    go_ret3
    exact ⟨_, ret_few (HNO.out E.out).1.symm E.out.symm, by rw [(HNO.out E.out).2]; exact own_nil _ _, hd.below⟩
  · have b2 := inR_true h2
    obtain ⟨n, rfl⟩ : ∃ n : Nat, a = n := ⟨a.toNat, by omega⟩
    have n1 : n ≤ 120 := by omega
    obtain ⟨l1, l5⟩ := vc_len h1
    have hp := vc_pos h1
    obtain ⟨b, off, cap, rfl, hbw, hc⟩ := id (hv.at0 l1)
    have HC := Lib.hid hc
    have HV := Lib.hid hv
    have HAT := Lib.hid (fun (i : Nat) => vc_at h1 (i := i))
    have HFB : Hid (∀ x : Nat, -1 ≤ fwV cs (x : Int) ∧ fwV cs (x : Int) ≤ x) := fun x => by
      have := fw_ge hp (x : Int)
      by_cases h : 0 ≤ fwV cs (x : Int)
      · exact ⟨this, fw_bound hp h⟩
      · omega
    have HFS := Lib.hid (fun (w : World) (hv : IsInts w (.slice (some ⟨b, off, none⟩) cs.length cap) cs) => fewest_spec _ cs n w hv h1 (by omega))
    have HYE : Hid (0 ≤ fwV cs (n : Int) → cFew cs (n : Int) = true) := fun h => cFew_yes h1 h2 h
    have HN3 : Hid (fwV cs (n : Int) < 0 → cFew cs (n : Int) = false) := fun h => cFew_no3 h
    have HYL : Hid (cFew cs (n : Int) = true → fewN cs (n : Int) = fwV cs (n : Int) ∧ fewL cs (n : Int) = cntR cs cs.reverse (n : Int)) := fun h => by unfold fewN fewL; rw [if_pos h, if_pos h]; exact ⟨rfl, rfl⟩
    have HTM : Hid (∀ (i : Nat) (x : Int), i < cs.length → cs.getD i 0 ≤ x → fwV cs (x - cs.getD i 0) = fwV cs x - 1 → takeC cs (cs.getD i 0) x = takeC cs (cs.getD i 0) (x - cs.getD i 0) + 1) := fun i x hi h1' h2 => takeC_more (vc_at h1 hi).1 h1' h2
    have HTE : Hid (∀ (i : Nat) (x : Int), i < cs.length → ¬ (cs.getD i 0 ≤ x ∧ fwV cs (x - cs.getD i 0) = fwV cs x - 1) → takeC cs (cs.getD i 0) x = 0) := fun i x hi h => takeC_end (vc_at h1 hi).1 h
    have HAP := Lib.hid (fun (i : Nat) (h : i < cs.length) => cntR_app cs h)
    have HFZ : Hid (∀ x : Int, fwV cs x = 0 → x = 0) := fun x h => fw_eq_zero hp h
    obtain ⟨i0, hi, hz0, hz1, hz2⟩ := info_parts infoInt
    clear b2 hc hp hv
    go_enter Tryz.func39, Tryz.ntmps39
    go_wp2_with (first | (go_at_call 37; refine (HVC.out _ h1).mono ?_; rintro e w1 ⟨rfl, hd⟩) | (go_at_call 38; refine (HCC.out _ _ _ _ _ h2).mono ?_; rintro e w' ⟨rfl, rfl⟩) | fail)
    have hb1 : Below w.heap.size w w1 := hd.below
    have hs1 := hb1.size
    refine (HFS.out w1 (HV.out.below hb1)).mono ?_
    rintro e w2 ⟨v2, rfl, hown, hbl⟩
    obtain ⟨gl, cl, rfl, hg0, hg1⟩ := own_sl hown (tabL_len _ _) (by omega)
    have hb2 : Below w.heap.size w w2 := hb1.trans (hbl.mono hs1)
    have c1 := hown.cell (tabL_len _ _) n (by omega)
    rw [tabL_at _ (Nat.le_refl _)] at c1
    have n2 : (n : Int) < (n : Int) + 1 := by omega
    clear hbl HVC HCC HFS
    by_cases h3 : fwV cs (n : Int) < 0
    · have E := Lib.hid (HN3.out h3)
      go_wp2
      go_ret3
      exact ⟨_, ret_few (HNO.out E.out).1.symm E.out.symm, by rw [(HNO.out E.out).2]; exact own_nil _ _, hb2⟩
    · have E := Lib.hid (HYE.out (by omega))
      have hsz := hb2.size
      go_wp2_with (at_make; refine wpList_make_full _ rfl _ _ 35 rfl w2.heap.size 3 i0 (.int .i64 0) 1 Tryz.underlying35 hi hz0 hz1 _ _ _ _ cs.length rfl rfl rfl rfl ?b2 ?b3 (Nat.le_refl _) ?_)
      case b2 => rw [hz2]; omega
      case b3 => unfold maxLen; omega
      intro w3 hown0 hgrow0
      have hb3 : Below w.heap.size w w3 := hb2.trans (below_grown hgrow0 hsz (fun k h => by cases h))
      have ho3 : Own w3 w.heap.size (sl w2.heap.size cs.length cs.length) (List.replicate cs.length 0) := (own_made hown0).base hsz
      have hl3 := (hown.kept hgrow0 (.inr (by simp [Value.ownBlock]))).base hs1
      have hgc : w.heap.size ≤ w2.heap.size := hsz
      generalize w2.heap.size = gc at *
      have hne : gl ≠ gc := by omega
      have HFW : Hid (fwV cs (n : Int) = fwV cs (n : Int)) := rfl
      have h30 : 0 ≤ fwV cs (n : Int) := by omega
      clear hown0 hgrow0 hown hb2 hb1 c1 h3
      go_wp2
      go_loopw [9, 10] (fun xv iv wr => ∃ (i x : Nat) (z : Int) (Q : List Int), i ≤ cs.length ∧ iv = .int .i64 z ∧ z = (i : Int) - 1 ∧ xv = .int .i64 x ∧ x ≤ n ∧ 0 ≤ fwV cs (x : Int) ∧ i + Q.length = cs.length ∧ cntR cs cs.reverse (n : Int) = cntR cs (cs.take i).reverse (x : Int) ++ Q ∧
        Own wr w.heap.size (sl gc cs.length cs.length) (List.replicate i 0 ++ Q) ∧ Own wr w.heap.size (sl gl (n + 1) cl) (tabL (fwV cs) n) ∧ Below w.heap.size w wr) (fun _ iv _ => (intOf iv + 1).toNat)
      case atStart => exact ⟨cs.length, n, _, [], Nat.le_refl _, rfl, rfl, rfl, Nat.le_refl _, h30, by simp, by rw [List.take_length, List.append_nil], by rw [List.append_nil]; exact ho3, hl3, hb3⟩
      case round =>
        clear ho3 hl3 hb3 h30
        obtain ⟨i, x, z, Q, hi, rfl, hz, rfl, hxn, hfx, hQ, hcnt, hown, hlst, hbl⟩ := hrel
        rename World => wr
        cases i with
        | zero =>
          have z1 : ¬ (0 : Int) ≤ z := by omega
          have hll := (HYL.out E.out)
          rw [hcnt] at hll
          have H2 : Hid (fewL cs (n : Int) = Q) := by show _ = _; rw [hll.2, List.take_zero]; rfl
          have H1 := Lib.hid hll.1
          have c1 := hlst.cell (tabL_len _ _) n (by omega)
          rw [tabL_at _ (Nat.le_refl _)] at c1
          have hown' : Own wr w.heap.size (sl gc cs.length cs.length) Q := by simpa using hown
          clear hll hcnt hown hlst
          go_wp2
          go_ret3
          exact ⟨_, ret_few H1.out.symm E.out.symm, by rw [H2.out]; exact hown', hbl⟩
        | succ j =>
          obtain rfl : z = (j : Int) := by omega
          clear hz
          have hlt : j < cs.length := by omega
          have j1 : (j : Int) < (cs.length : Int) := by omega
          have j0 : (0 : Int) ≤ (j : Int) := by omega
          have hat := HAT.out j hlt
          obtain ⟨c, hcn⟩ : ∃ c : Nat, cs.getD j 0 = c := ⟨(cs.getD j 0).toNat, by omega⟩
          have HCI : Hid (∀ wz : World, Below w.heap.size w wz → wz.cell? ⟨b, off + j, none⟩ = some (.int .i64 (c : Int))) := fun wz hz => by
            rw [← hcn]; exact (hz.cell (by exact hbw)).trans (HC.out j hlt)
          have HTMj := HTM.out j
          have HTEj := HTE.out j
          have hap := HAP.out j hlt (x : Int) Q
          rw [hcn] at HTMj HTEj hap hat
          rw [rep_succ] at hown
          have hown0 : Own wr w.heap.size (sl gc cs.length cs.length) (List.replicate j 0 ++ ((0 : Nat) : Int) :: Q) := hown
          have HTMh := Lib.hid (fun y => HTMj y hlt)
          have HTEh := Lib.hid (fun y => HTEj y hlt)
          have hcnt2 := Lib.hid (hcnt.trans hap)
          clear HTMj HTEj hap hcn hcnt hown
          go_wp2
          go_loopw [9] (fun yv wx => ∃ y k : Nat, yv = .int .i64 y ∧ y ≤ n ∧ (y : Int) = x - k * c ∧ 0 ≤ fwV cs (y : Int) ∧ takeC cs c x = k + takeC cs c y ∧ k ≤ 120 ∧ y + k ≤ n ∧ Own wx w.heap.size (sl gc cs.length cs.length) (List.replicate j 0 ++ (k : Int) :: Q) ∧ Own wx w.heap.size (sl gl (n + 1) cl) (tabL (fwV cs) n) ∧ Below w.heap.size w wx) (fun yv _ => (intOf yv).toNat)
          case atStart => exact ⟨x, 0, rfl, hxn, by omega, hfx, by omega, by omega, by omega, hown0, hlst, hbl⟩
          case round =>
            clear hown0 hlst hbl
            obtain ⟨y, k, rfl, hyn, hyk, hfy, htk, hk1, hk2, hown, hlst, hbl⟩ := hrel
            rename World => wx
            have ci := HCI.out wx hbl
            have y1 : (y : Int) < (n : Int) + 1 := by omega
            have hcy := hlst.cell (tabL_len _ _) y (by omega)
            rw [tabL_at _ hyn] at hcy
            have hfb := HFB.out y
            by_cases hle : c ≤ y
            · have x3 : (c : Int) ≤ (y : Int) := by omega
              have x4 : (0 : Int) ≤ (y : Int) - (c : Int) := by omega
              have x5 : (y : Int) - (c : Int) < (n : Int) + 1 := by omega
              have x6 : ((y : Int) - (c : Int)).toNat = y - c := by omega
              have hcy2 := hlst.cell (tabL_len _ _) (y - c) (by omega)
              rw [tabL_at _ (by omega)] at hcy2
              have hfb2 := HFB.out (y - c)
              have HTM2 := HTMh.out (y : Int) x3
              have HTE2 := HTEh.out (y : Int)
              rw [show (y : Int) - (c : Int) = ((y - c : Nat) : Int) by omega] at HTM2 HTE2
              have HM2 := Lib.hid HTM2
              have HE2 := Lib.hid HTE2
              have HY := Lib.hid hyk
              have HT := Lib.hid htk
              have HFZ2 := Lib.hid (HFZ.out (y : Int))
              clear HTM2 HTE2 hyk htk
              by_cases heq : fwV cs ((y - c : Nat) : Int) = fwV cs (y : Int) - 1
              · have hfy2 : 0 ≤ fwV cs ((y - c : Nat) : Int) := by
                  by_cases h0 : fwV cs (y : Int) = 0
                  · have := HFZ2.out h0; omega
                  · omega
                have HTK : Hid (takeC cs c x = (k + 1) + takeC cs c ((y - c : Nat) : Int)) := by
                  show _ = _
                  rw [HT.out, HM2.out heq]; omega
                have HFY2 : Hid (∀ t : Nat, t = y - c → 0 ≤ fwV cs (t : Int)) := fun t e => by rw [e]; exact hfy2
                have hck := hown.cell (by simp; omega) j hlt
                rw [rep_get] at hck
                have hfk := hown.frozen (by simp; omega) j
                have hsk := hown.set (by simp; omega) j ((k : Int) + 1)
                rw [rep_set] at hsk
                generalize fwV cs ((y - c : Nat) : Int) = m at *
                generalize fwV cs (y : Int) = u at *
                subst heq
                have HO := Lib.hid hown
                have HLS := Lib.hid hlst
                have HSK : Hid (∀ q : Nat, Own ((wx.drewN q).setCell ⟨gc, j, none⟩ (.int .i64 ((k : Int) + 1))) w.heap.size (sl gc cs.length cs.length) (List.replicate j 0 ++ ((k : Int) + 1) :: Q) ∧ Own ((wx.drewN q).setCell ⟨gc, j, none⟩ (.int .i64 ((k : Int) + 1))) w.heap.size (sl gl (n + 1) cl) (tabL (fwV cs) n) ∧ Below w.heap.size w ((wx.drewN q).setCell ⟨gc, j, none⟩ (.int .i64 ((k : Int) + 1)))) := fun q => by
                  have h1 := (own_drewN hown q).set (by simp; omega) j ((k : Int) + 1)
                  rw [rep_set] at h1
                  exact ⟨h1.1, (own_drewN hlst q).kept h1.2 (.inr (by simpa [Value.ownBlock] using hne)), (below_drewNC hbl hbl.size q).setCell (by exact hgc) _⟩
                clear hown hlst hsk
                go_wp2
                go_quiet (fail)
                go_wp2
                go_roundw
                case rel => exact ⟨y - c, k + 1, by go_num, by omega, by rw [show ((y - c : Nat) : Int) = (y : Int) - c by omega, HY.out, Int.natCast_add, Int.add_mul]; omega, HFY2.out _ rfl, HTK.out, by omega, by omega, (HSK.out _).1, (HSK.out _).2.1, (HSK.out _).2.2⟩
                case measure => simp [intOf]; omega
              · have HTX : Hid (takeC cs c (y : Int) = 0) := HE2.out (fun h => heq h.2)
                have HNX : Hid (takeC cs c (x : Int) = k) := by show _ = _; rw [HT.out, HTX.out]; rfl
                have hYX : (x : Int) - ((takeC cs c (x : Int) : Nat) : Int) * c = y := by rw [HNX.out]; have := HY.out; omega
                have hc3 : cntR cs cs.reverse (n : Int) = cntR cs (cs.take j).reverse (y : Int) ++ (k : Int) :: Q := by rw [hcnt2.out, hYX, HNX.out]
                have HC3 := Lib.hid hc3
                have HO := Lib.hid (fun q => own_drewN hown q)
                have HL := Lib.hid (fun q => own_drewN hlst q)
                have hbz := hbl.size
                have HFY : Hid (∀ t : Nat, t = y → 0 ≤ fwV cs (t : Int)) := fun t e => by rw [e]; exact hfy
                have HB := Lib.hid (fun q => below_drewNC hbl hbz q)
                have hne2 : (fwV cs ((y - c : Nat) : Int) == fwV cs (y : Int) - 1) = false := by simp [heq]
                clear hYX hc3 hown hlst hfy
                generalize fwV cs ((y - c : Nat) : Int) = m at *
                generalize fwV cs (y : Int) = u at *
                go_wp2
                go_quiet (fail)
                go_wp2
                go_roundw
                case rel => exact ⟨j, y, _, (k : Int) :: Q, by omega, by go_num, rfl, rfl, hyn, HFY.out _ rfl, by simp; omega, HC3.out, HO.out _, HL.out _, HB.out _⟩
                case measure => simp [intOf]
            · have x3 : ¬ (c : Int) ≤ (y : Int) := by omega
              have HTX : Hid (takeC cs c (y : Int) = 0) := HTEh.out (y : Int) (fun h => x3 h.1)
              have HNX : Hid (takeC cs c (x : Int) = k) := by show _ = _; rw [htk, HTX.out]; rfl
              have hYX : (x : Int) - ((takeC cs c (x : Int) : Nat) : Int) * c = y := by rw [HNX.out]; omega
              have hc3 : cntR cs cs.reverse (n : Int) = cntR cs (cs.take j).reverse (y : Int) ++ (k : Int) :: Q := by rw [hcnt2.out, hYX, HNX.out]
              have HC3 := Lib.hid hc3
              have HO := Lib.hid (fun q => own_drewN hown q)
              have HL := Lib.hid (fun q => own_drewN hlst q)
              have hbz := hbl.size
              have HFY : Hid (∀ t : Nat, t = y → 0 ≤ fwV cs (t : Int)) := fun t e => by rw [e]; exact hfy
              have HB := Lib.hid (fun q => below_drewNC hbl hbz q)
              clear hYX hc3 hown hlst hfy hyk htk
              generalize fwV cs (y : Int) = u at *
              go_wp2
              go_quiet (fail)
              go_wp2
              go_roundw
              case rel => exact ⟨j, y, _, (k : Int) :: Q, by omega, by go_num, rfl, rfl, hyn, HFY.out _ rfl, by simp; omega, HC3.out, HO.out _, HL.out _, HB.out _⟩
              case measure => simp [intOf]

end Go.Proofs.YtpenbkfchgeafaaGreatDoor

namespace Go.Proofs.YtpenbkfchgeafaaGreatDoor
open Go.RowKit

/-- n bytes lie at a. -/
def IsBytes (w : World) (a : Option Addr) (n : Nat) : Prop := ∀ j, j < n → ∃ (b off : Nat) (x : Int), a = some ⟨b, off, none⟩ ∧ w.cell? ⟨b, off + j, none⟩ = some (.int .u8 x) ∧ 0 ≤ x ∧ x ≤ 255

/-- The block R is a reader of n bytes at a, of which p numbers have been picked; the bytes lie below B, which is at most R. -/
structure IsReader (w : World) (B R : Nat) (a : Option Addr) (n cap p : Nat) : Prop where
  block : w.heap[R]? = some (.cells #[.slice a n cap, .int .i64 p] 52 (0, 0))
  bytes : IsBytes w a n
  low : ∀ b, a.map Addr.block = some b → 0 < n → b < B
  base : B ≤ R
  len : n ≤ 2000

theorem IsBytes.below {w w' : World} {B : Nat} {a : Option Addr} {n : Nat} (h : IsBytes w a n) (hb : Below B w w') (hl : ∀ b, a.map Addr.block = some b → 0 < n → b < B) : IsBytes w' a n := by
  intro j hj
  obtain ⟨b, off, x, ha, hc, hx⟩ := h j hj
  refine ⟨b, off, x, ha, ?_, hx⟩
  exact (hb.cell (by exact hl b (by rw [ha]; rfl) (by omega))).trans hc

theorem ofInt_i64 (a : Nat) (ha : a < 9223372036854775808) : (BitVec.ofInt 64 (a : Int)).toNat = a := by
  rw [BitVec.ofInt_natCast, BitVec.toNat_ofNat]; exact Nat.mod_eq_of_lt (by omega)
theorem i64_xor_nat (a b : Nat) (ha : a < 9223372036854775808) (hb : b < 9223372036854775808) : bits .xor .i64 (a : Int) (b : Int) = ((a ^^^ b : Nat) : Int) := by
  have hx : a ^^^ b < 2 ^ 63 := Nat.xor_lt_two_pow (by omega) (by omega)
  show IntKind.i64.wrap ((BitVec.ofInt 64 (a : Int) ^^^ BitVec.ofInt 64 (b : Int)).toNat : Int) = _
  rw [BitVec.toNat_xor, ofInt_i64 a ha, ofInt_i64 b hb, IntKind.wrap_i64]
  omega

theorem xor_nonneg (x y : Int) (h0 : 0 ≤ x) (h1 : x ≤ 4294967296) (h2 : 0 ≤ y) (h3 : y ≤ 4294967296) : 0 ≤ bits .xor .i64 x y := by
  obtain ⟨a, rfl⟩ : ∃ a : Nat, x = a := ⟨x.toNat, by omega⟩
  obtain ⟨b, rfl⟩ : ∃ b : Nat, y = b := ⟨y.toNat, by omega⟩
  rw [i64_xor_nat a b (by omega) (by omega)]
  omega

/-- What a pick hands back: a number from 0 up to less than n, 0 for n below 1. -/
def Picked (n y : Int) : Prop := 0 ≤ y ∧ (1 ≤ n → y < n) ∧ (n < 1 → y = 0)

theorem reader_stored {w : World} {B R : Nat} {a : Option Addr} {n cap p : Nat} (h : IsReader w B R a n cap p) :
    IsReader (w.setCell ⟨R, 1, none⟩ (.int .i64 ((p : Int) + 1))) B R a n cap (p + 1) ∧ w.grownBy (w.setCell ⟨R, 1, none⟩ (.int .i64 ((p : Int) + 1))) (some R) := by
  have hg : w.grownBy (w.setCell ⟨R, 1, none⟩ (.int .i64 ((p : Int) + 1))) (some R) := ⟨rfl, rfl, rfl, by simp, fun k _ hk => heap_setCell_other w ⟨R, 1, none⟩ k _ (fun e => hk (by simp [e]))⟩
  refine ⟨⟨?_, ?_, h.low, h.base, h.len⟩, hg⟩
  · rw [heap_setCell_same w R 1 _ _ _ h.block]
    simp
  · exact h.bytes.below (below_grown hg (by have := h.base; have := (Array.getElem?_eq_some_iff.1 h.block).1; omega) (fun k hk => by cases hk; exact h.base)) h.low

theorem IsReader.drewN {w : World} {B R : Nat} {a : Option Addr} {n cap p : Nat} (h : IsReader w B R a n cap p) (q : Nat) : IsReader (w.drewN q) B R a n cap p := ⟨h.block, h.bytes, h.low, h.base, h.len⟩
theorem grown_drewN {w w' : World} {row : Option Nat} (h : w.grownBy w' row) (q : Nat) : w.grownBy (w'.drewN q) row := ⟨h.os, h.tape, h.output, h.size, h.block⟩

/-- A reader where only other blocks have turned. -/
theorem IsReader.kept {w w' : World} {B R : Nat} {a : Option Addr} {n cap p : Nat} {row : Option Nat} (h : IsReader w B R a n cap p) (hg : w.grownBy w' row) (hr : ∀ k, row = some k → B ≤ k ∧ k ≠ R) : IsReader w' B R a n cap p := by
  have hlt := (Array.getElem?_eq_some_iff.1 h.block).1
  refine ⟨?_, h.bytes.below (below_grown hg (by have := h.base; omega) (fun k hk => (hr k hk).1)) h.low, h.low, h.base, h.len⟩
  rw [hg.block R hlt (fun e => (hr R e.symm).2 rfl)]
  exact h.block

theorem IsReader.later {w w' : World} {B R : Nat} {a : Option Addr} {n cap p : Nat} (h : IsReader w B R a n cap p) (hb : Below w.heap.size w w') : IsReader w' B R a n cap p :=
  h.kept (grown_below hb none) (fun k hk => by cases hk)

set_option maxHeartbeats 1600000 in
theorem pick_any (n : Int) (B R : Nat) (a : Option Addr) (len cap p : Nat) (w : World) (h : IsReader w B R a len cap p) (hp : p ≤ 1000000) (hn : -1000000 ≤ n ∧ n ≤ 1000000) :
    Calls Tryz.prog 16 #[.pointer (some ⟨R, 0, none⟩), .int .i64 n] w fun e w' => ∃ y, e = .returned (.int .i64 y) ∧ Picked n y ∧ IsReader w' B R a len cap (p + 1) ∧ w.grownBy w' (some R) := by
  have c0 : w.cell? ⟨R, 0, none⟩ = some (.slice a len cap) := by rw [cell_of_row w R 0 _ _ _ h.block]; rfl
  have c1 : w.cell? ⟨R, 1, none⟩ = some (.int .i64 p) := by rw [cell_of_row w R 1 _ _ _ h.block]; rfl
  have hfr : w.frozen? ⟨R, 1, none⟩ = false := frozen_of_row w R 1 _ _ h.block
  have hst := reader_stored h
  have H1 := Lib.hid hst.1
  have H2 := Lib.hid hst.2
  have hlen := h.len
  have hby := h.bytes.below (below_grown hst.2 (by have := h.base; have := (Array.getElem?_eq_some_iff.1 h.block).1; omega) (fun k hk => by cases hk; exact h.base)) h.low
  clear hst h
  by_cases hn1 : n < 1
  · have hd : decide (n < 1) = true := decide_eq_true hn1
    go_enter Tryz.func16, Tryz.ntmps16
    go_wp2
    go_ret
    exact ⟨0, rfl, ⟨by omega, fun h => by omega, fun _ => rfl⟩, H1.out, H2.out⟩
  · have hd : decide (n < 1) = false := decide_eq_false hn1
    by_cases hz : len = 0
    · have hzz : ((len : Int) == 0) = true := by simp [hz]
      go_enter Tryz.func16, Tryz.ntmps16
      have HZ := Lib.hid hz
      clear hz
      go_wp2
      go_ret
      exact ⟨0, rfl, ⟨by omega, fun h => by omega, fun _ => rfl⟩, H1.out, H2.out⟩
    · have hzz : ((len : Int) == 0) = false := by simp [hz]
      have hl0 : 0 < len := by omega
      by_cases hk : p < len
      · obtain ⟨b, off, x, rfl, hc, hx0, hx1⟩ := hby p hk
        have hm0 := Int.emod_nonneg x (show n ≠ 0 by omega)
        have hm1 := Int.emod_lt_of_pos x (show 0 < n by omega)
        clear hby
        go_enter Tryz.func16, Tryz.ntmps16
        go_wp2
        go_ret
        exact ⟨_, rfl, ⟨hm0, fun _ => hm1, fun h => by omega⟩, H1.out, H2.out⟩
      · obtain ⟨b, off, x, rfl, hc, hx0, hx1⟩ := hby (p % len) (Nat.mod_lt _ hl0)
        obtain ⟨b2, off2, y, e2, hc2, hy0, hy1⟩ := hby ((p * 7 + 3) % len) (Nat.mod_lt _ hl0)
        simp only [Option.some.injEq, Addr.mk.injEq, and_true] at e2
        obtain ⟨rfl, rfl⟩ := e2
        have q1 : (p : Int) % (len : Int) < (len : Int) := Int.emod_lt_of_pos _ (by omega)
        have q2 : ((p : Int) * 7 + 3) % (len : Int) < (len : Int) := Int.emod_lt_of_pos _ (by omega)
        have q3 : 0 ≤ (p : Int) % (len : Int) := Int.emod_nonneg _ (by omega)
        have q4 : 0 ≤ ((p : Int) * 7 + 3) % (len : Int) := Int.emod_nonneg _ (by omega)
        have d0 : 0 ≤ (p : Int) / (len : Int) := Int.ediv_nonneg (by omega) (by omega)
        have d1 : (p : Int) / (len : Int) ≤ p := Int.ediv_le_self _ (by omega)
        clear hby
        go_enter Tryz.func16, Tryz.ntmps16
        go_wp2
        go_quiet (fail)
        have e0 : 0 ≤ x * 131 + y * 1117 + (p : Int) * 29 + (p : Int) / (len : Int) * 53 := by omega
        have e1 : x * 131 + y * 1117 + (p : Int) * 29 + (p : Int) / (len : Int) * 53 ≤ 4294967296 := by omega
        generalize x * 131 + y * 1117 + (p : Int) * 29 + (p : Int) / (len : Int) * 53 = E at e0 e1 ⊢
        have hx := xor_nonneg E (E / 64) e0 e1 (by omega) (by omega)
        have hm0 := Int.emod_nonneg (bits .xor .i64 E (E / 64)) (show n ≠ 0 by omega)
        have hm1 := Int.emod_lt_of_pos (bits .xor .i64 E (E / 64)) (show 0 < n by omega)
        go_wp2
        go_ret
        exact ⟨_, rfl, ⟨hm0, fun _ => hm1, fun h => by omega⟩, H1.out.drewN _, grown_drewN H2.out _⟩

set_option maxHeartbeats 800000 in
/-- One of the numbers of a list that lies in no reader's block. -/
theorem one_any (v : Value) (xs : List Int) (B R : Nat) (a : Option Addr) (len cap p : Nat) (w : World) (h : IsReader w B R a len cap p) (hp : p ≤ 1000000) (hv : IsInts w v xs) (hne : v.ownBlock ≠ some R) (hl0 : 0 < xs.length) (hl : xs.length ≤ 1000000) :
    Calls Tryz.prog 13 #[.pointer (some ⟨R, 0, none⟩), v] w fun e w' => ∃ y, e = .returned (.int .i64 y) ∧ y ∈ xs ∧ IsReader w' B R a len cap (p + 1) ∧ w.grownBy w' (some R) := by
  obtain ⟨a2, cap2, rfl, hc⟩ := hv
  have hpk := pick_any (xs.length : Int) B R a len cap p w h hp (by omega)
  have HP := Lib.hid hpk
  clear hpk
  go_enter Tryz.func13, Tryz.ntmps13
  go_wp2_with fail
  refine HP.out.mono ?_
  rintro e w1 ⟨y, rfl, ⟨hy0, hy1, _⟩, hrd, hg⟩
  have hyl := hy1 (by omega)
  obtain ⟨j, rfl⟩ : ∃ j : Nat, y = j := ⟨y.toNat, by omega⟩
  have hj : j < xs.length := by omega
  obtain ⟨b, off, rfl, hcell⟩ := hc j hj
  have hbR : some b ≠ some R := by simpa [Value.ownBlock] using hne
  have hcell1 : w1.cell? ⟨b, off + j, none⟩ = some (.int .i64 (xs.getD j 0)) := hg.cell hcell hbR
  have hmem : xs.getD j 0 ∈ xs := by simp [List.getD, hj]
  have HM := Lib.hid hmem
  clear hc hmem hcell hy1
  go_wp2
  go_ret
  exact ⟨_, rfl, by simp, hrd, hg⟩

end Go.Proofs.YtpenbkfchgeafaaGreatDoor
