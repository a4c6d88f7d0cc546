/- Tables of bools: what they are, filling, and coin after coin (made out of the texts on ints). -/
import Derived.Test.YtbkndncdhombeaaByC
namespace Go.Proofs.Ytbkndncdhombeaa
open Go.RowKit

theorem infoBool : (Try.prog.info? 4).map (fun i => (i.zero, i.size, i.bytes)) = some (some (.bool false), 1, 1) := by kernel_rfl

def OwnZ (w : World) (B : Nat) (v : Value) (xs : List Bool) : Prop := w.ownsRow B 4 1 v xs.length (xs.map Value.bool)

theorem OwnZ.below {w w' : World} {B : Nat} {v : Value} {xs : List Bool} (h : OwnZ w B v xs) (hb : Below w.heap.size w w') : OwnZ w' B v xs :=
  World.ownsRow.kept h (grown_below hb none) (by cases hv : v.ownBlock <;> simp)

theorem OwnZ.base {w : World} {B B' : Nat} {v : Value} {xs : List Bool} (h : OwnZ w B v xs) (hb : B' ≤ B) : OwnZ w B' v xs := by
  refine ⟨h.1, ?_⟩
  rcases h.2 with hn | ⟨g, cap, cur, hv, hg, rest⟩
  · exact .inl hn
  · exact .inr ⟨g, cap, cur, hv, by omega, rest⟩

theorem OwnZ.lt {w : World} {B : Nat} {v : Value} {xs : List Bool} (h : OwnZ w B v xs) : ∀ k, v.ownBlock = some k → B ≤ k ∧ k < w.heap.size := World.ownsRow.lt h

/-- Behind a write into the block of another slice. -/
theorem OwnZ.kept {w w' : World} {B : Nat} {v : Value} {xs : List Bool} {row : Option Nat} (h : OwnZ w B v xs) (hg : w.grownBy w' row) (hne : v.ownBlock = none ∨ v.ownBlock ≠ row) : OwnZ w' B v xs := World.ownsRow.kept h hg hne

theorem ownZ_made {w0 : World} {B g n : Nat} (h : w0.ownsRow B 4 1 (sl g n n) n (madeCells #[Value.bool false] n).toList) :
    OwnZ w0 B (sl g n n) (List.replicate n false) := by
  rw [toList_madeCells_one] at h
  unfold OwnZ
  rw [List.length_replicate, List.map_replicate]
  exact h

theorem OwnZ.cell {w : World} {B g n cap : Nat} {xs : List Bool} (h : OwnZ w B (sl g n cap) xs) (hn : xs.length = n) (j : Nat) (hj : j < n) : w.cell? ⟨g, j, none⟩ = some (.bool (xs.getD j false)) := by
  subst hn
  rw [World.ownsRow.cellAt h j (by omega)]
  simp [List.getD, hj]

theorem OwnZ.frozen {w : World} {B g n cap : Nat} {xs : List Bool} (h : OwnZ w B (sl g n cap) xs) (hn : xs.length = n) (j : Nat) : w.frozen? ⟨g, j, none⟩ = false := by
  subst hn
  exact World.ownsRow.frozenAt h j

theorem OwnZ.set {w : World} {B g n cap : Nat} {xs : List Bool} (h : OwnZ w B (sl g n cap) xs) (hn : xs.length = n) (j : Nat) (u : Bool) :
    OwnZ (w.setCell ⟨g, j, none⟩ (.bool u)) B (sl g n cap) (xs.set j u) ∧ w.grownBy (w.setCell ⟨g, j, none⟩ (.bool u)) (some g) := by
  subst hn
  have := World.ownsRow.stored h j (.bool u)
  refine ⟨?_, this.2⟩
  unfold OwnZ
  rw [List.length_set, List.map_set]
  exact this.1

theorem OwnZ.baseLe {w : World} {B g n cap : Nat} {xs : List Bool} (h : OwnZ w B (sl g n cap) xs) : B ≤ g ∧ g < w.heap.size := h.lt g rfl

/-- All values up to n. -/
def tabZ (f : Int → Bool) (n : Nat) : List Bool := (List.range (n + 1)).map fun j : Nat => f (j : Int)
/-- Below x already the new ones. -/
def stZ (f g : Int → Bool) (x n : Nat) : List Bool := (List.range (n + 1)).map fun j : Nat => if j < x then g (j : Int) else f (j : Int)

theorem tabZ_len (f : Int → Bool) (n : Nat) : (tabZ f n).length = n + 1 := by simp [tabZ]
theorem stZ_len (f g : Int → Bool) (x n : Nat) : (stZ f g x n).length = n + 1 := by simp [stZ]
theorem tabZ_at (f : Int → Bool) {n j : Nat} (h : j ≤ n) : (tabZ f n).getD j false = f j := by
  have : j < n + 1 := by omega
  simp [tabZ, List.getD, this]
theorem stZ_at (f g : Int → Bool) (x : Nat) {n j : Nat} (h : j ≤ n) : (stZ f g x n).getD j false = if j < x then g j else f j := by
  have : j < n + 1 := by omega
  simp [stZ, List.getD, this]
theorem stZ_set (f g : Int → Bool) {x n : Nat} (_h : x ≤ n) : (stZ f g x n).set x (g x) = stZ f g (x + 1) n := by
  apply List.ext_getElem
  · simp [stZ]
  · intro i h1 h2
    rw [List.getElem_set]
    simp only [stZ, List.getElem_map, List.getElem_range]
    split
    · rename_i e; subst e; rw [if_pos (by omega)]
    · rename_i e
      by_cases h3 : i < x
      · rw [if_pos h3, if_pos (by omega)]
      · rw [if_neg h3, if_neg (by omega)]
theorem stZ_start (f g : Int → Bool) {x n : Nat} (h : ∀ j : Nat, j < x → j ≤ n → g j = f j) : stZ f g x n = tabZ f n := by
  apply List.map_congr_left
  intro j hj
  have hj' : j < n + 1 := by simpa using hj
  split
  · rename_i h2; exact h j h2 (by omega)
  · rfl
theorem stZ_end (f g : Int → Bool) {x n : Nat} (h : n < x) : stZ f g x n = tabZ g n := by
  apply List.map_congr_left
  intro j hj
  have hj' : j < n + 1 := by simpa using hj
  rw [if_pos (by omega)]
theorem tabZ_congr {f g : Int → Bool} {n : Nat} (h : ∀ j : Nat, j ≤ n → f j = g j) : tabZ f n = tabZ g n := by
  apply List.map_congr_left
  intro j hj
  have hj' : j < n + 1 := by simpa using hj
  exact h j (by omega)

theorem first_setZ (n : Nat) (a b : Bool) : (List.replicate (n + 1) b).set 0 a = tabZ (fun x => if x = 0 then a else b) n := by
  apply List.ext_getElem
  · simp [tabZ]
  · intro i h1 h2
    rw [List.getElem_set]
    simp only [tabZ, List.getElem_map, List.getElem_range, List.getElem_replicate]
    by_cases h : 0 = i
    · subst h; simp
    · rw [if_neg h, if_neg (by omega)]

theorem ownZ_sl {w : World} {B n : Nat} {v : Value} {xs : List Bool} (h : OwnZ w B v xs) (hn : xs.length = n) (hp : 1 ≤ n) : ∃ g cap, v = sl g n cap ∧ B ≤ g ∧ g < w.heap.size := by
  rcases h.2 with ⟨_, h0⟩ | ⟨g, cap, cur, hv, _⟩
  · omega
  · subst hn
    exact ⟨g, cap, hv, h.lt g (by rw [hv]; rfl)⟩

theorem ownZ_drewN {w : World} {B : Nat} {v : Value} {xs : List Bool} (h : OwnZ w B v xs) (m : Nat) : OwnZ (w.drewN m) B v xs := h.below (Drawn.below ⟨m, rfl⟩)

set_option maxRecDepth 100000 in
set_option maxHeartbeats 3200000 in
theorem Repeat_bool (x0 : Bool) (b off cap n : Nat) (w : World) (hbw : b < w.heap.size) (c0 : w.cell? ⟨b, off, none⟩ = some (.bool x0)) (hn1 : 1 ≤ n) (hn : n ≤ 1100) :
    Calls Try.prog 71 #[.slice (some ⟨b, off, none⟩) 1 cap, .int .i64 (n : Int)] w fun e w' => ∃ v', e = .returned v' ∧ OwnZ w' w.heap.size v' (List.replicate n x0) ∧ Below w.heap.size w w' := by
  have HM := Lib.hid (Mul_one n w (by omega))
  obtain ⟨i0, hi, hz0, hz1, hz2⟩ := info_parts infoBool
  have n0 : ¬ (n : Int) < 0 := by omega
  go_enter Try.func71, Try.ntmps71
  go_wp2_with (first
    | (go_at_call 73; refine HM.out.mono ?_; rintro e w' ⟨rfl, rfl⟩)
    | (at_make; refine wpList_make_full _ rfl _ _ 56 rfl w.heap.size 4 i0 (.bool false) 1 Try.underlying56 hi hz0 hz1 _ _ _ _ n rfl rfl rfl rfl ?b2 ?b3 (Nat.le_refl _) ?_))
  case b2 => rw [hz2]; omega
  case b3 => unfold maxLen; omega
  intro w0 hown0 hgrow0
  have hb0 : Below w.heap.size w w0 := below_grown hgrow0 (Nat.le_refl _) (fun k h => by cases h)
  have hrow := (row_whole hown0 hn1).1
  rw [toList_madeCells_one, ← filled_none n (.bool x0)] at hrow
  have c1 : w0.cell? ⟨b, off, none⟩ = some (.bool x0) := (hb0.cell hbw).trans c0
  clear hown0 hgrow0 c0 HM
  have hl0 := filled_len n 0 (.bool x0) (.bool false) (Nat.zero_le _)
  have hs0 := filled_splice n 0 1 (.bool x0) (.bool false) (by omega)
  generalize hF : filled n 0 (.bool x0) (.bool false) = F0 at *
  have HS0 := Lib.hid hs0
  clear hF hs0
  have hm1 : Nat.min 1 n = 1 := Nat.min_eq_left hn1
  go_wp2_with ((with_reducible show wpList _ _ _ _ _ _); refine wpList_copy_splice (o := ⟨some 33, _, _, _, _, _⟩) rfl (.tmp 31) (.tmp 32) 56 56 rfl 4 Try.underlying56 (by kernel_rfl) _ _ _ _ _ _ rfl rfl w.heap.size 0 F0 4 hrow [.bool x0] ?hnn ?hpos ?hfit ?hone w.heap.size w hb0 (Nat.le_refl _) ?_)
  case hnn => rw [hm1]; rfl
  case hpos =>
    intro j v hj
    cases j with
    | zero => simp at hj; subst hj; simpa using c1
    | succ j => simp at hj
  case hfit => simp; omega
  case hone => intro v hv; simp at hv; subst hv; rfl
  intro w1 HG1 hb1
  rw [show splice F0 0 [Value.bool x0] = filled n 1 (.bool x0) (.bool false) from HS0.out] at HG1
  clear hrow hb0 c1 hl0 HS0 F0 hm1
  go_wp2
  go_loopw [8] (fun kv wr => ∃ k : Nat, 1 ≤ k ∧ k ≤ n ∧ kv = .int .i64 k ∧ Hid (wr.heap[w.heap.size]? = some (.cells (filled n k (.bool x0) (.bool false)).toArray 4 (0, 0))) ∧ Below w.heap.size w wr) (fun kv _ => n - (intOf kv).toNat)
  case atStart => exact ⟨1, Nat.le_refl _, hn1, rfl, HG1, hb1⟩
  case round =>
    clear HG1 hb1
    obtain ⟨k, hk1, hkn, rfl, HG, hbl⟩ := hrel
    rename World => wr
    by_cases hlt : k < n
    · have k1 : (k : Int) < (n : Int) := by omega
      have k2 : (k : Int) ≤ (n : Int) := by omega
      obtain ⟨m, hm⟩ : ∃ m : Nat, Nat.min k (n - k) = m := ⟨_, rfl⟩
      have hmk : m ≤ k := by rw [← hm]; exact Nat.min_le_left _ _
      have hmn : k + m ≤ n := by have := Nat.min_le_right k (n - k); rw [show min k (n - k) = m from hm] at this; omega
      have hm1 : 1 ≤ m := by
        have h1 : m = Nat.min k (n - k) := hm.symm
        have h2 : Nat.min k (n - k) = min k (n - k) := rfl
        omega
      have HFS := Lib.hid (filled_splice n k m (.bool x0) (.bool false) hmn)
      have HFC : Hid (∀ j v, (List.replicate m (Value.bool x0))[j]? = some v → wr.cell? ⟨w.heap.size, j, none⟩ = some v) := fun j v hj => by
        refine row_cell HG.out (filled_len _ _ _ _ hkn) (by unfold maxLen; omega) ?_
        rw [List.getElem?_replicate] at hj
        unfold filled
        split at hj
        · rw [List.getElem?_append_left (by simp; omega), List.getElem?_replicate, if_pos (by omega)]
          exact hj
        · cases hj
      have HM := Lib.hid hm
      have hfl := filled_len n k (.bool x0) (.bool false) hkn
      have HD : Hid (wr.drew.heap[w.heap.size]? = some (.cells (filled n k (.bool x0) (.bool false)).toArray 4 (0, 0))) := HG.out
      have HBD := Lib.hid hbl.drew
      have HNN : Hid ((List.replicate m (Value.bool x0)).length = Nat.min k (n - k)) := by show _ = _; rw [List.length_replicate]; exact hm.symm
      have HSRC : Hid (∀ j v, (List.replicate m (Value.bool x0))[j]? = some v → wr.drew.cell? ((⟨w.heap.size, 0, none⟩ : Addr).add j) = some v) := fun j v hj => by
        have := HFC.out j v hj
        rw [Go.WideShapes.add_plain, Nat.zero_add]
        exact this
      have HFIT : Hid (k + (List.replicate m (Value.bool x0)).length ≤ (filled n k (.bool x0) (.bool false)).length) := by show _ ≤ _; rw [List.length_replicate, hfl]; exact hmn
      have HONE : Hid (∀ v ∈ List.replicate m (Value.bool x0), v.oneCell' = true) := fun v hv => by rw [(List.mem_replicate.1 hv).2]; rfl
      clear hm
      generalize filled n k (.bool x0) (.bool false) = F at *
      go_wp2
      go_region_law (refine step_copy_splice rfl (.tmp 41) (.tmp 44) 56 56 rfl 4 Try.underlying56 (by kernel_rfl) (some ⟨w.heap.size, k, none⟩) (some ⟨w.heap.size, 0, none⟩) (n - k) (n - k) k n (by simp [Act.eval, Act.put]; omega) (by simp [Act.eval, Act.put]) w.heap.size k F 4 HD.out (List.replicate m (Value.bool x0)) HNN.out (fun _ => ⟨rfl, _, rfl, HSRC.out⟩) HFIT.out HONE.out w.heap.size w HBD.out (Nat.le_refl _) ?_; intro w4 HG4 hb4)
      rw [HFS.out] at HG4
      have m1 : (k : Int) + (m : Int) ≤ 1100 := by omega
      have hwr : IntKind.i64.wrap ((k : Int) + (m : Int)) = (k : Int) + (m : Int) := IntWalk.i64_in _ (by omega)
      clear HD HBD HNN HSRC HFIT HONE HFC HFS HM
      go_wp2
      go_roundw
      case rel => exact ⟨k + m, by omega, hmn, by omega, HG4⟩
      case measure => simp [intOf]; omega
    · obtain rfl : k = n := by omega
      have HO : Hid (OwnZ wr w.heap.size (sl w.heap.size k k) (List.replicate k x0)) := by
        show OwnZ _ _ _ _
        unfold OwnZ
        rw [List.length_replicate, List.map_replicate]
        have := HG.out
        rw [filled_all] at this
        exact whole_row this (by simp) (Nat.le_refl _) (by unfold maxLen; omega)
      go_wp2
      go_ret
      exact ⟨_, rfl, HO.out, hbl⟩

set_option maxRecDepth 100000 in
set_option maxHeartbeats 3200000 in
theorem addCoinZ_same (K : FuncId) (hK : ∀ (args : Array Value) (w : World), (callFunc K args).run Try.prog w = .ok (.enter K args) w) (f g : Int → Bool) (c n ga cap B : Nat) (w : World) (hown : OwnZ w B (sl ga (n + 1) cap) (tabZ f n)) (hc : 1 ≤ c) (hc30 : c ≤ 30) (hless : ∀ j : Nat, j < c → j ≤ n → g j = f j) (hn : n ≤ 1100)
    (hcall : ∀ x : Nat, c ≤ x → x ≤ n → ∀ w, Calls Try.prog K #[.bool (f x), .bool (g ((x - c : Nat) : Int))] w fun e w' => e = .returned (.bool (g x)) ∧ w = w') :
    Calls Try.prog 70 #[.int .i64 (c : Int), sl ga (n + 1) cap, sl ga (n + 1) cap, .func (.func K) #[] #[]] w fun e w' => e = .returned (.tuple #[]) ∧ OwnZ w' B (sl ga (n + 1) cap) (tabZ g n) ∧ w.grownBy w' (some ga) := by
  rw [← stZ_start f g hless] at hown
  have HCALL := Lib.hid hcall
  clear hcall hless
  go_enter Try.func70, Try.ntmps70
  go_wp2
  go_loopw [8] (fun xv wr => ∃ x : Nat, c ≤ x ∧ x ≤ n + 31 ∧ xv = .int .i64 x ∧ OwnZ wr B (sl ga (n + 1) cap) (stZ f g x n) ∧ w.grownBy wr (some ga)) (fun xv _ => n + 31 - (intOf xv).toNat)
  case atStart => exact ⟨c, Nat.le_refl _, by omega, rfl, hown, World.grownBy.refl _ _⟩
  case round =>
    clear hown
    obtain ⟨x, hcx, hxn, rfl, hown, hgr⟩ := hrel
    rename World => wr
    by_cases hx : x ≤ n
    · have x1 : (x : Int) < (n : Int) + 1 := by omega
      have x3 : (0 : Int) ≤ (x : Int) - (c : Int) := by omega
      have x4 : (x : Int) - (c : Int) < (n : Int) + 1 := by omega
      have x5 : ((x : Int) - (c : Int)).toNat = x - c := by omega
      have hwr : IntKind.i64.wrap ((x : Int) - (c : Int)) = (x : Int) - (c : Int) := IntWalk.i64_in _ (by omega)
      have c1 := hown.cell (stZ_len _ _ _ _) x (by omega)
      have c2 := hown.cell (stZ_len _ _ _ _) (x - c) (by omega)
      have f1 := hown.frozen (stZ_len _ _ _ _) x
      rw [stZ_at _ _ _ hx, if_neg (by omega)] at c1
      rw [stZ_at _ _ _ (by omega), if_pos (by omega)] at c2
      have hs := hown.set (stZ_len _ _ _ _) x (g (x : Int))
      rw [stZ_set _ _ hx] at hs
      have HC := Lib.hid (HCALL.out x hcx hx)
      have HS1 : Hid (∀ q, OwnZ ((wr.drewN q).setCell ⟨ga, x, none⟩ (.bool (g (x : Int)))) B (sl ga (n + 1) cap) (stZ f g (x + 1) n)) := fun q => by
        have := ((ownZ_drewN hown q).set (stZ_len _ _ _ _) x (g (x : Int))).1
        rwa [stZ_set _ _ hx] at this
      have HG1 : Hid (∀ q, w.grownBy ((wr.drewN q).setCell ⟨ga, x, none⟩ (.bool (g (x : Int)))) (some ga)) := fun q =>
        (hgr.trans (grown_below (Drawn.below ⟨q, rfl⟩) (some ga))).trans ((ownZ_drewN hown q).set (stZ_len _ _ _ _) x (g (x : Int))).2
      clear hown hs
      generalize g ((x - c : Nat) : Int) = y at *
      generalize f (x : Int) = u at *
      generalize g (x : Int) = z at *
      go_wp2
      go_region_law (refine step_enter rfl (by simp [execOp, resolve, invoke, Deferred.ofValue, Act.eval, hK]; first | done | rfl) (HC.out _) ?_)
      all_goals
        go_wp2
        go_roundw
        case rel => exact ⟨x + 1, by omega, by omega, by go_num, HS1.out 1, HG1.out 1⟩
        case measure => simp [intOf]; omega
    · have x1 : ¬ (x : Int) < (n : Int) + 1 := by omega
      rw [stZ_end _ _ (by omega)] at hown
      go_wp2
      go_end0
      exact ⟨rfl, hown, hgr⟩

set_option maxRecDepth 100000 in
set_option maxHeartbeats 3200000 in
theorem withoutCoins_bool (n : Nat) (x y : Bool) (w : World) (hn : n ≤ 1050) :
    Calls Try.prog 58 #[.int .i64 (n : Int), .bool x, .bool y] w fun e w' => ∃ g cap, e = .returned (sl g (n + 1) cap) ∧ w.heap.size ≤ g ∧ OwnZ w' w.heap.size (sl g (n + 1) cap) (tabZ (fun j => if j = 0 then x else y) n) ∧ Below w.heap.size w w' := by
  have b0 : Below w.heap.size w (w.alloc (.cells #[.bool y] 4)) := (Below.refl _ _).alloc (Nat.le_refl _) _
  have HR := Repeat_bool y w.heap.size 0 1 (n + 1) (w.alloc (.cells #[.bool y] 4)) (by simp) (World.cell?_alloc_at _ _ _ _ rfl) (by omega) (by omega)
  rw [show ((n + 1 : Nat) : Int) = (n : Int) + 1 by omega] at HR
  have HR := Lib.hid HR
  go_enter Try.func58, Try.ntmps58
  go_wp2_with (go_at_call 71; refine HR.out.mono ?_; rintro e w2 ⟨v2, rfl, hown, hbl⟩)
  have hs0 := b0.size
  have hb2 : Below w.heap.size w w2 := b0.trans (hbl.mono hs0)
  obtain ⟨g, cap, hvv, hg0, hg1⟩ := ownZ_sl hown (List.length_replicate ..) (by omega)
  obtain rfl : v2 = .slice (some ⟨g, 0, none⟩) (n + 1) cap := hvv
  have hown2 := hown.base hs0
  have c1 := hown2.cell (List.length_replicate ..) 0 (by omega)
  have f1 := hown2.frozen (List.length_replicate ..) 0
  have hs := (hown2.set (List.length_replicate ..) 0 x).1
  rw [first_setZ] at hs
  have hgw : w.heap.size ≤ g := by omega
  have hb3 : Below w.heap.size w (w2.setCell ⟨g, 0, none⟩ (.bool x)) := hb2.setCell hgw _
  have HS := Lib.hid hs
  have n1 : (0 : Int) < (n : Int) + 1 := by omega
  clear hown hown2 hs HR
  have n4 : 0 < n + 1 := by omega
  have n5 : (0 : Int) ≤ (n : Int) := by omega
  go_wp2
  go_simp
  go_wp2
  go_ret
  exact ⟨g, cap, rfl, hgw, HS.out, hb3⟩

set_option maxRecDepth 100000 in
set_option maxHeartbeats 3200000 in
theorem byCoins_bool (K : FuncId) (hK : ∀ (args : Array Value) (w : World), (callFunc K args).run Try.prog w = .ok (.enter K args) w) (F : List Int → Int → Bool) (cs : List Int) (v : Value) (n ga cap : Nat) (w0 w : World)
    (hv : IsInts w0 v cs) (hcs : ∀ i, i < cs.length → 1 ≤ cs.getD i 0 ∧ cs.getD i 0 ≤ 30) (hlen : cs.length ≤ 5) (hbel : Below w0.heap.size w0 w) (hga : w0.heap.size ≤ ga) (hown : OwnZ w w0.heap.size (sl ga (n + 1) cap) (tabZ (F []) n)) (hn : n ≤ 1100)
    (hless : ∀ i, i < cs.length → ∀ j : Nat, (j : Int) < cs.getD i 0 → j ≤ n → F (cs.take (i + 1)) j = F (cs.take i) j)
    (hcall : ∀ i, i < cs.length → ∀ x : Nat, cs.getD i 0 ≤ x → x ≤ n → ∀ w, Calls Try.prog K #[.bool (F (cs.take i) x), .bool (F (cs.take (i + 1)) ((x : Int) - cs.getD i 0))] w fun e w' => e = .returned (.bool (F (cs.take (i + 1)) x)) ∧ w = w') :
    Calls Try.prog 57 #[v, sl ga (n + 1) cap, .func (.func K) #[] #[]] w fun e w' => e = .returned (sl ga (n + 1) cap) ∧ OwnZ w' w0.heap.size (sl ga (n + 1) cap) (tabZ (F cs) n) ∧ Below w0.heap.size w0 w' := by
  have HADD : Hid (∀ i, i < cs.length → ∀ wx : World, OwnZ wx w0.heap.size (sl ga (n + 1) cap) (tabZ (F (cs.take i)) n) → Calls Try.prog 70 #[.int .i64 (cs.getD i 0), sl ga (n + 1) cap, sl ga (n + 1) cap, .func (.func K) #[] #[]] wx fun e w' => e = .returned (.tuple #[]) ∧ OwnZ w' w0.heap.size (sl ga (n + 1) cap) (tabZ (F (cs.take (i + 1))) n) ∧ wx.grownBy w' (some ga)) := fun i hi wx hx => by
    have hat := hcs i hi
    obtain ⟨c, hc⟩ : ∃ c : Nat, cs.getD i 0 = c := ⟨(cs.getD i 0).toNat, by omega⟩
    rw [hc]
    refine addCoinZ_same K hK _ _ c n ga cap w0.heap.size wx hx (by omega) (by omega) (fun j h1 h2 => hless i hi j (by omega) h2) hn (fun x h1 h2 w => ?_)
    have := hcall i hi x (by omega) h2 w
    rw [hc, show (x : Int) - (c : Int) = ((x - c : Nat) : Int) by omega] at this
    exact this
  have HF0 : Hid (F (cs.take 0) = F []) := by show _ = _; rw [List.take_zero]
  have hown0 : OwnZ w w0.heap.size (sl ga (n + 1) cap) (tabZ (F (cs.take 0)) n) := by rw [HF0.out]; exact hown
  obtain ⟨a, cp, rfl, hc⟩ := hv
  clear hless hcall hown HF0 hcs
  go_enter Try.func57, Try.ntmps57
  go_wp2
  go_loopw [8, 11, 19] (fun _ iv _ wr => ∃ i : Nat, i ≤ cs.length ∧ iv = .int .i64 i ∧ OwnZ wr w0.heap.size (sl ga (n + 1) cap) (tabZ (F (cs.take i)) n) ∧ Below w0.heap.size w0 wr) (fun _ iv _ _ => cs.length - (intOf iv).toNat)
  case atStart => exact ⟨0, Nat.zero_le _, rfl, hown0, hbel⟩
  case round =>
    clear hown0 hbel
    obtain ⟨i, hi, rfl, hown, hbl⟩ := hrel
    rename World => wr
    by_cases hlt : i < cs.length
    · have i1 : (i : Int) < (cs.length : Int) := by omega
      obtain ⟨b, off, rfl, c0⟩ := hc i hlt
      have hbb : b < w0.heap.size := World.block_lt_of_cell? w0 _ c0
      have ci : wr.cell? ⟨b, off + i, none⟩ = some (.int .i64 (cs.getD i 0)) := (hbl.cell (by exact hbb)).trans c0
      have HA := Lib.hid (HADD.out i hlt wr hown)
      clear hc HADD
      generalize cs.getD i 0 = c at *
      go_wp2_with (go_at_call 70; refine HA.out.mono ?_; rintro e w2 ⟨rfl, hown2, hgr⟩)
      have hbl2 : Below w0.heap.size w0 w2 := hbl.trans (below_grown hgr hbl.size (fun k hk => by cases hk; exact hga))
      clear hgr hown HA
      go_wp2
      go_roundw
      case rel => exact ⟨i + 1, by omega, by go_num, hown2, hbl2⟩
      case measure => simp [intOf]; omega
    · have hie : i = cs.length := by omega
      subst hie
      rw [List.take_length] at hown
      go_wp2
      go_ret
      exact ⟨rfl, hown, hbl⟩

end Go.Proofs.Ytbkndncdhombeaa
