/- slices.Repeat over one int. One coin more comes to a table of amounts. Coin after coin comes to a table of amounts. -/
import Derived.Test.YtpenbkfchgeafaaGreatDoorQNum
import Derived.Test.YtpenbkfchgeafaaGreatDoorQPush
import Derived.Laws.CopyOwn
import Derived.Deep.RegionLaw
import Derived.IntWalk
namespace Go.Proofs.YtpenbkfchgeafaaGreatDoor
open Go.RowKit

/-- The first k cells are filled. -/
def filled (N k : Nat) (u z : Value) : List Value := List.replicate k u ++ List.replicate (N - k) z

theorem filled_len (N k : Nat) (u z : Value) (h : k ≤ N) : (filled N k u z).length = N := by simp [filled]; omega
theorem filled_all (N : Nat) (u z : Value) : filled N N u z = List.replicate N u := by simp [filled]
theorem filled_none (N : Nat) (u z : Value) : filled N 0 u z = List.replicate N z := by simp [filled]
theorem filled_splice (N k m : Nat) (u z : Value) (h : k + m ≤ N) : splice (filled N k u z) k (List.replicate m u) = filled N (k + m) u z := by
  unfold splice filled
  rw [List.take_append_of_le_length (by simp), List.take_of_length_le (by simp), List.length_replicate, List.drop_append, List.drop_eq_nil_of_le (by simp), List.nil_append, List.length_replicate, List.drop_replicate, ← List.append_assoc, List.replicate_append_replicate]
  congr 2
  omega

/-- A row whole. -/
theorem row_whole {w : World} {B g n : Nat} {ty : TypeId} {zs : List Value} (h : w.ownsRow B ty 1 (.slice (some ⟨g, 0, none⟩) n n) n zs) (_hn : 1 ≤ n) : w.heap[g]? = some (.cells zs.toArray ty (0, 0)) ∧ zs.length = n := by
  obtain ⟨h1, h2⟩ := h
  rcases h2 with ⟨h0, _⟩ | ⟨g', cap, cur, hv, hg, hh, h3, h4, h5, h6⟩
  · cases h0
  · simp only [Value.slice.injEq, Option.some.injEq, Addr.mk.injEq, and_true, true_and] at hv
    obtain ⟨rfl, rfl⟩ := hv
    refine ⟨?_, by omega⟩
    rw [List.take_of_length_le (by rw [Array.length_toList]; omega)] at h6
    rw [← h6, hh]

theorem whole_row {w : World} {B g n : Nat} {ty : TypeId} {zs : List Value} (h : w.heap[g]? = some (.cells zs.toArray ty (0, 0))) (hz : zs.length = n) (hB : B ≤ g) (hn : n ≤ maxLen) : w.ownsRow B ty 1 (.slice (some ⟨g, 0, none⟩) n n) n zs :=
  ⟨by omega, .inr ⟨g, n, zs.toArray, rfl, hB, h, Nat.le_refl _, hn, by simp; omega, by rw [List.take_of_length_le (by simp; omega)]⟩⟩

theorem row_cell {w : World} {g n j : Nat} {ty : TypeId} {zs : List Value} {v : Value} (h : w.heap[g]? = some (.cells zs.toArray ty (0, 0))) (hz : zs.length = n) (hn : n ≤ maxLen) (hj : zs[j]? = some v) : w.cell? ⟨g, j, none⟩ = some v := by
  have hlt : j < n := by rw [← hz]; exact (List.getElem?_eq_some_iff.1 hj).1
  rw [World.ownsRow.cellAt (whole_row (B := 0) h hz (Nat.zero_le _) hn) j (by omega)]
  exact hj

set_option maxRecDepth 100000 in
set_option maxHeartbeats 3200000 in
theorem Repeat_int (x0 : Int) (v : Value) (n : Nat) (w : World) (hv : IsInts w v [x0]) (hn1 : 1 ≤ n) (hn : n ≤ 1100) :
    Calls Tryz.prog 124 #[v, .int .i64 (n : Int)] w fun e w' => ∃ v', e = .returned v' ∧ Own w' w.heap.size v' (List.replicate n x0) ∧ Below w.heap.size w w' := by
  obtain ⟨b, off, cap, rfl, hbw, hc⟩ := hv.at0 (by simp)
  have c0 := hc 0 (by simp)
  rw [Nat.add_zero] at c0
  have HM := Lib.hid (Mul_one n w (by omega))
  obtain ⟨i0, hi, hz0, hz1, hz2⟩ := info_parts infoInt
  have n0 : ¬ (n : Int) < 0 := by omega
  clear hc hv
  have hl1 : ([x0] : List Int).length = 1 := rfl
  rw [hl1]
  clear hl1
  go_enter Tryz.func124, Tryz.ntmps124
  go_wp2_with (first
    | (go_at_call 134; refine HM.out.mono ?_; rintro e w' ⟨rfl, rfl⟩)
    | (at_make; refine wpList_make_full _ rfl _ _ 35 rfl w.heap.size 3 i0 (.int .i64 0) 1 Tryz.underlying35 hi hz0 hz1 _ _ _ _ n rfl rfl rfl rfl ?b2 ?b3 (Nat.le_refl _) ?_))
  case b2 => rw [hz2]; omega
  case b3 => unfold maxLen; omega
  intro w0 hown0 hgrow0
  have hb0 : Below w.heap.size w w0 := below_grown hgrow0 (Nat.le_refl _) (fun k h => by cases h)
  have hrow := (row_whole hown0 hn1).1
  rw [toList_madeCells_one, ← filled_none n (.int .i64 x0)] at hrow
  have c1 : w0.cell? ⟨b, off, none⟩ = some (.int .i64 x0) := (hb0.cell hbw).trans c0
  clear hown0 hgrow0 c0 HM
  have hl0 := filled_len n 0 (.int .i64 x0) (.int .i64 0) (Nat.zero_le _)
  have hs0 := filled_splice n 0 1 (.int .i64 x0) (.int .i64 0) (by omega)
  generalize hF : filled n 0 (.int .i64 x0) (.int .i64 0) = F0 at *
  have HS0 := Lib.hid hs0
  clear hF hs0
  have hm1 : Nat.min 1 n = 1 := Nat.min_eq_left hn1
  go_wp2_with ((with_reducible show wpList _ _ _ _ _ _); refine wpList_copy_splice (o := ⟨some 33, _, _, _, _, _⟩) rfl (.tmp 31) (.tmp 32) 35 35 rfl 3 Tryz.underlying35 (by kernel_rfl) _ _ _ _ _ _ rfl rfl w.heap.size 0 F0 3 hrow [.int .i64 x0] ?hnn ?hpos ?hfit ?hone w.heap.size w hb0 (Nat.le_refl _) ?_)
  case hnn => rw [hm1]; rfl
  case hpos =>
    intro j v hj
    cases j with
    | zero => simp at hj; subst hj; simpa using c1
    | succ j => simp at hj
  case hfit => simp; omega
  case hone => intro v hv; simp at hv; subst hv; rfl
  intro w1 HG1 hb1
  rw [show splice F0 0 [Value.int .i64 x0] = filled n 1 (.int .i64 x0) (.int .i64 0) from HS0.out] at HG1
  clear hrow hb0 c1 hl0 HS0 F0 hm1
  go_wp2
  go_loopw [8] (fun kv wr => ∃ k : Nat, 1 ≤ k ∧ k ≤ n ∧ kv = .int .i64 k ∧ Hid (wr.heap[w.heap.size]? = some (.cells (filled n k (.int .i64 x0) (.int .i64 0)).toArray 3 (0, 0))) ∧ Below w.heap.size w wr) (fun kv _ => n - (intOf kv).toNat)
  case atStart => exact ⟨1, Nat.le_refl _, hn1, rfl, HG1, hb1⟩
  case round =>
    clear HG1 hb1
    obtain ⟨k, hk1, hkn, rfl, HG, hbl⟩ := hrel
    rename World => wr
    by_cases hlt : k < n
    · have k1 : (k : Int) < (n : Int) := by omega
      have k2 : (k : Int) ≤ (n : Int) := by omega
      obtain ⟨m, hm⟩ : ∃ m : Nat, Nat.min k (n - k) = m := ⟨_, rfl⟩
      have hmk : m ≤ k := by rw [← hm]; exact Nat.min_le_left _ _
      have hmn : k + m ≤ n := by have := Nat.min_le_right k (n - k); rw [show min k (n - k) = m from hm] at this; omega
      have hm1 : 1 ≤ m := by
        have h1 : m = Nat.min k (n - k) := hm.symm
        have h2 : Nat.min k (n - k) = min k (n - k) := rfl
        omega
      have HFS := Lib.hid (filled_splice n k m (.int .i64 x0) (.int .i64 0) hmn)
      have HFC : Hid (∀ j v, (List.replicate m (Value.int .i64 x0))[j]? = some v → wr.cell? ⟨w.heap.size, j, none⟩ = some v) := fun j v hj => by
        refine row_cell HG.out (filled_len _ _ _ _ hkn) (by unfold maxLen; omega) ?_
        rw [List.getElem?_replicate] at hj
        unfold filled
        split at hj
        · rw [List.getElem?_append_left (by simp; omega), List.getElem?_replicate, if_pos (by omega)]
          exact hj
        · cases hj
      have HM := Lib.hid hm
      have hfl := filled_len n k (.int .i64 x0) (.int .i64 0) hkn
      have HD : Hid (wr.drew.heap[w.heap.size]? = some (.cells (filled n k (.int .i64 x0) (.int .i64 0)).toArray 3 (0, 0))) := HG.out
      have HBD := Lib.hid hbl.drew
      have HNN : Hid ((List.replicate m (Value.int .i64 x0)).length = Nat.min k (n - k)) := by show _ = _; rw [List.length_replicate]; exact hm.symm
      have HSRC : Hid (∀ j v, (List.replicate m (Value.int .i64 x0))[j]? = some v → wr.drew.cell? ((⟨w.heap.size, 0, none⟩ : Addr).add j) = some v) := fun j v hj => by
        have := HFC.out j v hj
        rw [Go.WideShapes.add_plain, Nat.zero_add]
        exact this
      have HFIT : Hid (k + (List.replicate m (Value.int .i64 x0)).length ≤ (filled n k (.int .i64 x0) (.int .i64 0)).length) := by show _ ≤ _; rw [List.length_replicate, hfl]; exact hmn
      have HONE : Hid (∀ v ∈ List.replicate m (Value.int .i64 x0), v.oneCell' = true) := fun v hv => by rw [(List.mem_replicate.1 hv).2]; rfl
      clear hm
      generalize filled n k (.int .i64 x0) (.int .i64 0) = F at *
      go_wp2
      go_region_law (refine step_copy_splice rfl (.tmp 41) (.tmp 44) 35 35 rfl 3 Tryz.underlying35 (by kernel_rfl) (some ⟨w.heap.size, k, none⟩) (some ⟨w.heap.size, 0, none⟩) (n - k) (n - k) k n (by simp [Act.eval, Act.put]; omega) (by simp [Act.eval, Act.put]) w.heap.size k F 3 HD.out (List.replicate m (Value.int .i64 x0)) HNN.out (fun _ => ⟨rfl, _, rfl, HSRC.out⟩) HFIT.out HONE.out w.heap.size w HBD.out (Nat.le_refl _) ?_; intro w4 HG4 hb4)
      rw [HFS.out] at HG4
      have m1 : (k : Int) + (m : Int) ≤ 1100 := by omega
      have hwr : IntKind.i64.wrap ((k : Int) + (m : Int)) = (k : Int) + (m : Int) := IntWalk.i64_in _ (by omega)
      clear HD HBD HNN HSRC HFIT HONE HFC HFS HM
      go_wp2
      go_roundw
      case rel => exact ⟨k + m, by omega, hmn, by omega, HG4⟩
      case measure => simp [intOf]; omega
    · obtain rfl : k = n := by omega
      have HO : Hid (Own wr w.heap.size (sl w.heap.size k k) (List.replicate k x0)) := by
        show Own _ _ _ _
        unfold Own
        rw [List.length_replicate, List.map_replicate]
        have := HG.out
        rw [filled_all] at this
        exact whole_row this (by simp) (Nat.le_refl _) (by unfold maxLen; omega)
      go_wp2
      go_ret
      exact ⟨_, rfl, HO.out, hbl⟩

end Go.Proofs.YtpenbkfchgeafaaGreatDoor

namespace Go.Proofs.YtpenbkfchgeafaaGreatDoor
open Go.RowKit

/-- A call of a Go function as a step of a region that draws its order, by a contract that leaves the world. -/
theorem step_enter {P : Program} {ops : Array Oper} {o : Oper} {a : Act} {w : World} {K : Act → World → Prop} {Q : Exit → Act → World → Prop} {E : Prop} {f : FuncId} {args : Array Value} {v : Value} (hgd : o.guard = none)
    (hrun : (execOp a.eval o).run P w = .ok (.enter f args) w) (hC : Calls P f args w fun e w' => e = .returned v ∧ w = w') (h : K (a.put o.dst v) w) :
    if Region.wanted o (yielded ops a.tmps) = true then Oper.wp P o a w K Q else E := by
  have hw : Region.wanted o (yielded ops a.tmps) = true := by simp [Region.wanted, hgd]
  rw [if_pos hw]
  unfold Oper.wp
  rw [hrun, Oper.upon_enter]
  refine hC.mono ?_
  rintro e w' ⟨rfl, rfl⟩
  exact h

set_option maxRecDepth 100000 in
set_option maxHeartbeats 3200000 in
theorem addCoin_same (K : FuncId) (hK : ∀ (args : Array Value) (w : World), (callFunc K args).run Tryz.prog w = .ok (.enter K args) w) (f g : Int → Int) (c n ga cap B : Nat) (w : World) (hown : Own w B (sl ga (n + 1) cap) (tabL f n)) (hc : 1 ≤ c) (hc30 : c ≤ 30) (hless : ∀ j : Nat, j < c → j ≤ n → g j = f j) (hn : n ≤ 1100)
    (hcall : ∀ x : Nat, c ≤ x → x ≤ n → ∀ w, Calls Tryz.prog K #[.int .i64 (f x), .int .i64 (g ((x - c : Nat) : Int))] w fun e w' => e = .returned (.int .i64 (g x)) ∧ w = w') :
    Calls Tryz.prog 123 #[.int .i64 (c : Int), sl ga (n + 1) cap, sl ga (n + 1) cap, .func (.func K) #[] #[]] w fun e w' => e = .returned (.tuple #[]) ∧ Own w' B (sl ga (n + 1) cap) (tabL g n) ∧ w.grownBy w' (some ga) := by
  rw [← stL_start f g hless] at hown
  have HCALL := Lib.hid hcall
  clear hcall hless
  go_enter Tryz.func123, Tryz.ntmps123
  go_wp2
  go_loopw [8] (fun xv wr => ∃ x : Nat, c ≤ x ∧ x ≤ n + 31 ∧ xv = .int .i64 x ∧ Own wr B (sl ga (n + 1) cap) (stL f g x n) ∧ w.grownBy wr (some ga)) (fun xv _ => n + 31 - (intOf xv).toNat)
  case atStart => exact ⟨c, Nat.le_refl _, by omega, rfl, hown, World.grownBy.refl _ _⟩
  case round =>
    clear hown
    obtain ⟨x, hcx, hxn, rfl, hown, hgr⟩ := hrel
    rename World => wr
    by_cases hx : x ≤ n
    · have x1 : (x : Int) < (n : Int) + 1 := by omega
      have x3 : (0 : Int) ≤ (x : Int) - (c : Int) := by omega
      have x4 : (x : Int) - (c : Int) < (n : Int) + 1 := by omega
      have x5 : ((x : Int) - (c : Int)).toNat = x - c := by omega
      have hwr : IntKind.i64.wrap ((x : Int) - (c : Int)) = (x : Int) - (c : Int) := IntWalk.i64_in _ (by omega)
      have c1 := hown.cell (stL_len _ _ _ _) x (by omega)
      have c2 := hown.cell (stL_len _ _ _ _) (x - c) (by omega)
      have f1 := hown.frozen (stL_len _ _ _ _) x
      rw [stL_at _ _ _ hx, if_neg (by omega)] at c1
      rw [stL_at _ _ _ (by omega), if_pos (by omega)] at c2
      have hs := hown.set (stL_len _ _ _ _) x (g (x : Int))
      rw [stL_set _ _ hx] at hs
      have HC := Lib.hid (HCALL.out x hcx hx)
      have HS1 : Hid (∀ q, Own ((wr.drewN q).setCell ⟨ga, x, none⟩ (.int .i64 (g (x : Int)))) B (sl ga (n + 1) cap) (stL f g (x + 1) n)) := fun q => by
        have := ((own_drewN hown q).set (stL_len _ _ _ _) x (g (x : Int))).1
        rwa [stL_set _ _ hx] at this
      have HG1 : Hid (∀ q, w.grownBy ((wr.drewN q).setCell ⟨ga, x, none⟩ (.int .i64 (g (x : Int)))) (some ga)) := fun q =>
        (hgr.trans (grown_below (Drawn.below ⟨q, rfl⟩) (some ga))).trans ((own_drewN hown q).set (stL_len _ _ _ _) x (g (x : Int))).2
      clear hown hs
      generalize g ((x - c : Nat) : Int) = y at *
      generalize f (x : Int) = u at *
      generalize g (x : Int) = z at *
      go_wp2
      go_region_law (refine step_enter rfl (by simp [execOp, resolve, invoke, Deferred.ofValue, Act.eval, hK]; first | done | rfl) (HC.out _) ?_)
      all_goals
        go_wp2
        go_roundw
        case rel => exact ⟨x + 1, by omega, by omega, by go_num, HS1.out 1, HG1.out 1⟩
        case measure => simp [intOf]; omega
    · have x1 : ¬ (x : Int) < (n : Int) + 1 := by omega
      rw [stL_end _ _ (by omega)] at hown
      go_wp2
      go_end0
      exact ⟨rfl, hown, hgr⟩

set_option maxRecDepth 100000 in
set_option maxHeartbeats 3200000 in
theorem addCoin_apart (K : FuncId) (hK : ∀ (args : Array Value) (w : World), (callFunc K args).run Tryz.prog w = .ok (.enter K args) w) (f g : Int → Int) (c n ga cap gb capb B : Nat) (w : World) (hown : Own w B (sl ga (n + 1) cap) (tabL f n)) (hownb : Own w B (sl gb (n + 1) capb) (tabL f n)) (hne : gb ≠ ga) (hc : 1 ≤ c) (hc30 : c ≤ 30) (hless : ∀ j : Nat, j < c → j ≤ n → g j = f j) (hn : n ≤ 1100)
    (hcall : ∀ x : Nat, c ≤ x → x ≤ n → ∀ w, Calls Tryz.prog K #[.int .i64 (f x), .int .i64 (f ((x - c : Nat) : Int))] w fun e w' => e = .returned (.int .i64 (g x)) ∧ w = w') :
    Calls Tryz.prog 123 #[.int .i64 (c : Int), sl ga (n + 1) cap, sl gb (n + 1) capb, .func (.func K) #[] #[]] w fun e w' => e = .returned (.tuple #[]) ∧ Own w' B (sl ga (n + 1) cap) (tabL g n) ∧ w.grownBy w' (some ga) := by
  rw [← stL_start f g hless] at hown
  have HCALL := Lib.hid hcall
  clear hcall hless
  go_enter Tryz.func123, Tryz.ntmps123
  go_wp2
  go_loopw [8] (fun xv wr => ∃ x : Nat, c ≤ x ∧ x ≤ n + 31 ∧ xv = .int .i64 x ∧ Own wr B (sl ga (n + 1) cap) (stL f g x n) ∧ Own wr B (sl gb (n + 1) capb) (tabL f n) ∧ w.grownBy wr (some ga)) (fun xv _ => n + 31 - (intOf xv).toNat)
  case atStart => exact ⟨c, Nat.le_refl _, by omega, rfl, hown, hownb, World.grownBy.refl _ _⟩
  case round =>
    clear hown hownb
    obtain ⟨x, hcx, hxn, rfl, hown, hownb, hgr⟩ := hrel
    rename World => wr
    by_cases hx : x ≤ n
    · have x1 : (x : Int) < (n : Int) + 1 := by omega
      have x3 : (0 : Int) ≤ (x : Int) - (c : Int) := by omega
      have x4 : (x : Int) - (c : Int) < (n : Int) + 1 := by omega
      have x5 : ((x : Int) - (c : Int)).toNat = x - c := by omega
      have hwr : IntKind.i64.wrap ((x : Int) - (c : Int)) = (x : Int) - (c : Int) := IntWalk.i64_in _ (by omega)
      have c1 := hown.cell (stL_len _ _ _ _) x (by omega)
      have c2 := hownb.cell (tabL_len _ _) (x - c) (by omega)
      have f1 := hown.frozen (stL_len _ _ _ _) x
      rw [stL_at _ _ _ hx, if_neg (by omega)] at c1
      rw [tabL_at _ (by omega)] at c2
      have hs := hown.set (stL_len _ _ _ _) x (g (x : Int))
      rw [stL_set _ _ hx] at hs
      have HC := Lib.hid (HCALL.out x hcx hx)
      have HS1 : Hid (∀ q, Own ((wr.drewN q).setCell ⟨ga, x, none⟩ (.int .i64 (g (x : Int)))) B (sl ga (n + 1) cap) (stL f g (x + 1) n)) := fun q => by
        have := ((own_drewN hown q).set (stL_len _ _ _ _) x (g (x : Int))).1
        rwa [stL_set _ _ hx] at this
      have HG1 : Hid (∀ q, w.grownBy ((wr.drewN q).setCell ⟨ga, x, none⟩ (.int .i64 (g (x : Int)))) (some ga)) := fun q =>
        (hgr.trans (grown_below (Drawn.below ⟨q, rfl⟩) (some ga))).trans ((own_drewN hown q).set (stL_len _ _ _ _) x (g (x : Int))).2
      have HB1 : Hid (∀ q, Own ((wr.drewN q).setCell ⟨ga, x, none⟩ (.int .i64 (g (x : Int)))) B (sl gb (n + 1) capb) (tabL f n)) := fun q =>
        (own_drewN hownb q).kept ((own_drewN hown q).set (stL_len _ _ _ _) x (g (x : Int))).2 (.inr (by simpa [Value.ownBlock] using hne))
      clear hown hs hownb
      generalize f ((x - c : Nat) : Int) = y at *
      generalize f (x : Int) = u at *
      generalize g (x : Int) = z at *
      go_wp2
      go_region_law (refine step_enter rfl (by simp [execOp, resolve, invoke, Deferred.ofValue, Act.eval, hK]; first | done | rfl) (HC.out _) ?_)
      all_goals
        go_wp2
        go_roundw
        case rel => exact ⟨x + 1, by omega, by omega, by go_num, HS1.out 1, HB1.out 1, HG1.out 1⟩
        case measure => simp [intOf]; omega
    · have x1 : ¬ (x : Int) < (n : Int) + 1 := by omega
      rw [stL_end _ _ (by omega)] at hown
      go_wp2
      go_end0
      exact ⟨rfl, hown, hgr⟩

end Go.Proofs.YtpenbkfchgeafaaGreatDoor

namespace Go.Proofs.YtpenbkfchgeafaaGreatDoor
open Go.RowKit

set_option maxRecDepth 100000 in
set_option maxHeartbeats 3200000 in
theorem withoutCoins_int (n : Nat) (x y : Int) (w : World) (hn : n ≤ 1050) :
    Calls Tryz.prog 105 #[.int .i64 (n : Int), .int .i64 x, .int .i64 y] w fun e w' => ∃ g cap, e = .returned (sl g (n + 1) cap) ∧ w.heap.size ≤ g ∧ Own w' w.heap.size (sl g (n + 1) cap) (tabL (fun j => if j = 0 then x else y) n) ∧ Below w.heap.size w w' := by
  have b0 : Below w.heap.size w (w.alloc (.cells #[.int .i64 y] 3)) := (Below.refl _ _).alloc (Nat.le_refl _) _
  have hi : IsInts (w.alloc (.cells #[.int .i64 y] 3)) (.slice (some ⟨w.heap.size, 0, none⟩) 1 1) [y] := ⟨_, 1, rfl, fun j hj => ⟨w.heap.size, 0, rfl, by
    obtain rfl : j = 0 := by simpa using hj
    exact World.cell?_alloc_at _ _ _ _ rfl⟩⟩
  have HR := Repeat_int y _ (n + 1) _ hi (by omega) (by omega)
  rw [show ((n + 1 : Nat) : Int) = (n : Int) + 1 by omega] at HR
  have HR := Lib.hid HR
  go_enter Tryz.func105, Tryz.ntmps105
  go_wp2_with (go_at_call 124; refine HR.out.mono ?_; rintro e w2 ⟨v2, rfl, hown, hbl⟩)
  have hs0 := b0.size
  have hb2 : Below w.heap.size w w2 := b0.trans (hbl.mono hs0)
  obtain ⟨g, cap, hvv, hg0, hg1⟩ := own_sl hown (List.length_replicate ..) (by omega)
  obtain rfl : v2 = .slice (some ⟨g, 0, none⟩) (n + 1) cap := hvv
  have hown2 := hown.base hs0
  have c1 := hown2.cell (List.length_replicate ..) 0 (by omega)
  have f1 := hown2.frozen (List.length_replicate ..) 0
  have hs := (hown2.set (List.length_replicate ..) 0 x).1
  rw [first_set] at hs
  have hgw : w.heap.size ≤ g := by omega
  have hb3 : Below w.heap.size w (w2.setCell ⟨g, 0, none⟩ (.int .i64 x)) := hb2.setCell hgw _
  have HS := Lib.hid hs
  have n1 : (0 : Int) < (n : Int) + 1 := by omega
  clear hown hown2 hs HR
  have n4 : 0 < n + 1 := by omega
  have n5 : (0 : Int) ≤ (n : Int) := by omega
  go_wp2
  go_simp
  go_wp2
  go_ret
  exact ⟨g, cap, rfl, hgw, HS.out, hb3⟩

set_option maxRecDepth 100000 in
set_option maxHeartbeats 3200000 in
theorem byCoins_int (K : FuncId) (hK : ∀ (args : Array Value) (w : World), (callFunc K args).run Tryz.prog w = .ok (.enter K args) w) (F : List Int → Int → Int) (cs : List Int) (v : Value) (n ga cap : Nat) (w0 w : World)
    (hv : IsInts w0 v cs) (hcs : ∀ i, i < cs.length → 1 ≤ cs.getD i 0 ∧ cs.getD i 0 ≤ 30) (hlen : cs.length ≤ 5) (hbel : Below w0.heap.size w0 w) (hga : w0.heap.size ≤ ga) (hown : Own w w0.heap.size (sl ga (n + 1) cap) (tabL (F []) n)) (hn : n ≤ 1100)
    (hless : ∀ i, i < cs.length → ∀ j : Nat, (j : Int) < cs.getD i 0 → j ≤ n → F (cs.take (i + 1)) j = F (cs.take i) j)
    (hcall : ∀ i, i < cs.length → ∀ x : Nat, cs.getD i 0 ≤ x → x ≤ n → ∀ w, Calls Tryz.prog K #[.int .i64 (F (cs.take i) x), .int .i64 (F (cs.take (i + 1)) ((x : Int) - cs.getD i 0))] w fun e w' => e = .returned (.int .i64 (F (cs.take (i + 1)) x)) ∧ w = w') :
    Calls Tryz.prog 104 #[v, sl ga (n + 1) cap, .func (.func K) #[] #[]] w fun e w' => e = .returned (sl ga (n + 1) cap) ∧ Own w' w0.heap.size (sl ga (n + 1) cap) (tabL (F cs) n) ∧ Below w0.heap.size w0 w' := by
  have HADD : Hid (∀ i, i < cs.length → ∀ wx : World, Own wx w0.heap.size (sl ga (n + 1) cap) (tabL (F (cs.take i)) n) → Calls Tryz.prog 123 #[.int .i64 (cs.getD i 0), sl ga (n + 1) cap, sl ga (n + 1) cap, .func (.func K) #[] #[]] wx fun e w' => e = .returned (.tuple #[]) ∧ Own w' w0.heap.size (sl ga (n + 1) cap) (tabL (F (cs.take (i + 1))) n) ∧ wx.grownBy w' (some ga)) := fun i hi wx hx => by
    have hat := hcs i hi
    obtain ⟨c, hc⟩ : ∃ c : Nat, cs.getD i 0 = c := ⟨(cs.getD i 0).toNat, by omega⟩
    rw [hc]
    refine addCoin_same K hK _ _ c n ga cap w0.heap.size wx hx (by omega) (by omega) (fun j h1 h2 => hless i hi j (by omega) h2) hn (fun x h1 h2 w => ?_)
    have := hcall i hi x (by omega) h2 w
    rw [hc, show (x : Int) - (c : Int) = ((x - c : Nat) : Int) by omega] at this
    exact this
  have HF0 : Hid (F (cs.take 0) = F []) := by show _ = _; rw [List.take_zero]
  have hown0 : Own w w0.heap.size (sl ga (n + 1) cap) (tabL (F (cs.take 0)) n) := by rw [HF0.out]; exact hown
  obtain ⟨a, cp, rfl, hc⟩ := hv
  clear hless hcall hown HF0 hcs
  go_enter Tryz.func104, Tryz.ntmps104
  go_wp2
  go_loopw [8, 11, 19] (fun _ iv _ wr => ∃ i : Nat, i ≤ cs.length ∧ iv = .int .i64 i ∧ Own wr w0.heap.size (sl ga (n + 1) cap) (tabL (F (cs.take i)) n) ∧ Below w0.heap.size w0 wr) (fun _ iv _ _ => cs.length - (intOf iv).toNat)
  case atStart => exact ⟨0, Nat.zero_le _, rfl, hown0, hbel⟩
  case round =>
    clear hown0 hbel
    obtain ⟨i, hi, rfl, hown, hbl⟩ := hrel
    rename World => wr
    by_cases hlt : i < cs.length
    · have i1 : (i : Int) < (cs.length : Int) := by omega
      obtain ⟨b, off, rfl, c0⟩ := hc i hlt
      have hbb : b < w0.heap.size := World.block_lt_of_cell? w0 _ c0
      have ci : wr.cell? ⟨b, off + i, none⟩ = some (.int .i64 (cs.getD i 0)) := (hbl.cell (by exact hbb)).trans c0
      have HA := Lib.hid (HADD.out i hlt wr hown)
      clear hc HADD
      generalize cs.getD i 0 = c at *
      go_wp2_with (go_at_call 123; refine HA.out.mono ?_; rintro e w2 ⟨rfl, hown2, hgr⟩)
      have hbl2 : Below w0.heap.size w0 w2 := hbl.trans (below_grown hgr hbl.size (fun k hk => by cases hk; exact hga))
      clear hgr hown HA
      go_wp2
      go_roundw
      case rel => exact ⟨i + 1, by omega, by go_num, hown2, hbl2⟩
      case measure => simp [intOf]; omega
    · have hie : i = cs.length := by omega
      subst hie
      rw [List.take_length] at hown
      go_wp2
      go_ret
      exact ⟨rfl, hown, hbl⟩

end Go.Proofs.YtpenbkfchgeafaaGreatDoor
