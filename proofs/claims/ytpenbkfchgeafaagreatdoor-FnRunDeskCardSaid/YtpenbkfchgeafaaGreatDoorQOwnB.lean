/- Slices of ints that a call makes itself: what they are. Worlds behind draws alone. The values of coins, in the model. Slices of ints that a call makes itself: contracts of copying, comparing, marking. -/
import Derived.Test.YtpenbkfchgeafaaGreatDoorQNum
import Derived.WalkSmall
import Derived.BigQuiet
import Derived.Deep.QuietTactic
import Derived.OwnWalk
namespace Go.Proofs.YtpenbkfchgeafaaGreatDoor
open Go.RowKit

theorem infoInt : (Tryz.prog.info? 3).map (fun i => (i.zero, i.size, i.bytes)) = some (some (.int .i64 0), 1, 8) := by kernel_rfl

/-- v is a slice of ints xs that lies in a block of the call's own, from B on (or nil where there are none). -/
def Own (w : World) (B : Nat) (v : Value) (xs : List Int) : Prop := w.ownsRow B 3 1 v xs.length (xs.map (Value.int .i64))

theorem grown_below {w w' : World} (h : Below w.heap.size w w') (row : Option Nat) : w.grownBy w' row := ⟨h.os, h.tape, h.output, h.size, fun k hk _ => h.block k hk⟩

theorem Own.below {w w' : World} {B : Nat} {v : Value} {xs : List Int} (h : Own w B v xs) (hb : Below w.heap.size w w') : Own w' B v xs :=
  World.ownsRow.kept h (grown_below hb none) (by cases hv : v.ownBlock <;> simp)

theorem Own.base {w : World} {B B' : Nat} {v : Value} {xs : List Int} (h : Own w B v xs) (hb : B' ≤ B) : Own w B' v xs := by
  refine ⟨h.1, ?_⟩
  rcases h.2 with hn | ⟨g, cap, cur, hv, hg, rest⟩
  · exact .inl hn
  · exact .inr ⟨g, cap, cur, hv, by omega, rest⟩

theorem Own.ints {w : World} {B : Nat} {v : Value} {xs : List Int} (h : Own w B v xs) : IsInts w v xs := by
  have h0 := h
  rcases h.2 with ⟨rfl, hn⟩ | ⟨g, cap, cur, rfl, _⟩
  · exact ⟨none, 0, by rw [hn], fun j hj => by omega⟩
  · refine ⟨_, cap, rfl, fun j hj => ⟨g, 0, rfl, ?_⟩⟩
    have := World.ownsRow.cellAt h0 j (by omega)
    rw [Nat.zero_add, this]
    simp [List.getD, hj]

theorem Own.lt {w : World} {B : Nat} {v : Value} {xs : List Int} (h : Own w B v xs) : ∀ k, v.ownBlock = some k → B ≤ k ∧ k < w.heap.size := World.ownsRow.lt h

/-- Behind a write into the block of another slice. -/
theorem Own.kept {w w' : World} {B : Nat} {v : Value} {xs : List Int} {row : Option Nat} (h : Own w B v xs) (hg : w.grownBy w' row) (hne : v.ownBlock = none ∨ v.ownBlock ≠ row) : Own w' B v xs := World.ownsRow.kept h hg hne

theorem below_grown {w w' : World} {B : Nat} {row : Option Nat} (hg : w.grownBy w' row) (hB : B ≤ w.heap.size) (hr : ∀ k, row = some k → B ≤ k) : Below B w w' := (Below.refl B w).grown hg hB hr

/-- The marks k, k + 1, .. -/
def marks (k : Int) : Nat → List Int
  | 0 => []
  | n + 1 => marks k n ++ [k + n]

theorem marks_length (k : Int) (n : Nat) : (marks k n).length = n := by
  induction n with
  | zero => rfl
  | succ n ih => simp [marks, ih]

theorem marks_getD (k : Int) (n j : Nat) (h : j < n) : (marks k n).getD j 0 = k + j := by
  induction n with
  | zero => omega
  | succ n ih =>
    have hl := marks_length k n
    by_cases hj : j < n
    · rw [← ih hj, marks, List.getD_eq_getElem?_getD, List.getD_eq_getElem?_getD, List.getElem?_append_left (by omega)]
    · have e : j = n := by omega
      subst e
      rw [marks, List.getD_eq_getElem?_getD, List.getElem?_append_right (by omega), hl, Nat.sub_self]
      rfl

theorem own_nil (w : World) (B : Nat) : Own w B (.slice none 0 0) [] := ⟨rfl, .inl ⟨rfl, rfl⟩⟩

end Go.Proofs.YtpenbkfchgeafaaGreatDoor

namespace Go.Proofs.YtpenbkfchgeafaaGreatDoor
open Go.RowKit

/-- Nothing but draws has happened. -/
def Drawn (w w' : World) : Prop := ∃ m, w' = w.drewN m
theorem Drawn.out {w w' : World} (h : Drawn w w') : ∃ m, w' = w.drewN m := h
theorem Drawn.cell {w w' : World} (h : Drawn w w') (p : Addr) : w'.cell? p = w.cell? p := by
  obtain ⟨m, rfl⟩ := h
  rfl
theorem Drawn.more {w w' : World} (h : Drawn w w') (n : Nat) : Drawn w (w'.drewN n) := by
  obtain ⟨m, rfl⟩ := h
  exact ⟨m + n, World.drewN_drewN _ _ _⟩

theorem Drawn.below {w w' : World} (h : Drawn w w') : Below w.heap.size w w' := by
  obtain ⟨m, rfl⟩ := h
  exact below_drewN (Below.refl _ _) m
theorem Drawn.refl (w : World) : Drawn w w := ⟨0, rfl⟩
theorem Drawn.trans {a b c : World} (h : Drawn a b) (k : Drawn b c) : Drawn a c := by
  obtain ⟨m, rfl⟩ := h
  obtain ⟨n, rfl⟩ := k
  exact ⟨m + n, World.drewN_drewN _ _ _⟩

theorem quiet_left {P : Program} {f : FuncId} {args : Array Value} {w : World} {n : Nat} {v : Value}
    (h : Calls P f args (w.drewN n) fun e w' => e = .returned v ∧ w.drewN n = w') : Calls P f args (w.drewN n) fun e w'' => e = .returned v ∧ ∃ m, w'' = w.drewN m :=
  h.mono fun _ _ ⟨he, hm⟩ => ⟨he, n, hm.symm⟩

end Go.Proofs.YtpenbkfchgeafaaGreatDoor

namespace Go.Proofs.YtpenbkfchgeafaaGreatDoor
open Go.RowKit

def okC (cs : List Int) (i : Nat) : Bool := inR (cs.getD i 0) 1 30 && (decide (i = 0) || decide (cs.getD (i - 1) 0 < cs.getD i 0))
/-- Are numbers the values of coins? -/
def vCoins (cs : List Int) : Bool := inR cs.length 1 5 && (List.range cs.length).all (okC cs)

theorem vCoins_no {cs : List Int} {i : Nat} (h : i < cs.length) (hf : okC cs i = false) : vCoins cs = false := by
  unfold vCoins
  have : (List.range cs.length).all (okC cs) = false := by
    rw [List.all_eq_false]
    exact ⟨i, by simpa using h, by simp [hf]⟩
  rw [this, Bool.and_false]

theorem vCoins_end {cs : List Int} (h : ∀ i, i < cs.length → okC cs i = true) : vCoins cs = inR cs.length 1 5 := by
  unfold vCoins
  rw [List.all_eq_true.2 (fun i hi => h i (List.mem_range.1 hi)), Bool.and_true]

theorem okC_true {cs : List Int} {i : Nat} (h : okC cs i = true) : (1 ≤ cs.getD i 0 ∧ cs.getD i 0 ≤ 30) ∧ (0 < i → cs.getD (i - 1) 0 < cs.getD i 0) := by
  unfold okC at h
  rw [Bool.and_eq_true, Bool.or_eq_true, decide_eq_true_iff, decide_eq_true_iff] at h
  exact ⟨inR_true h.1, fun h0 => by rcases h.2 with h2 | h2 <;> omega⟩

theorem vCoins_iff {cs : List Int} : vCoins cs = true ↔ (1 ≤ cs.length ∧ cs.length ≤ 5) ∧ ∀ i, i < cs.length → okC cs i = true := by
  unfold vCoins
  rw [Bool.and_eq_true, List.all_eq_true]
  constructor
  · rintro ⟨h1, h2⟩
    have := inR_true h1
    exact ⟨by omega, fun i hi => h2 i (List.mem_range.2 hi)⟩
  · rintro ⟨h1, h2⟩
    exact ⟨by unfold inR; exact decide_eq_true (by omega), fun i hi => h2 i (List.mem_range.1 hi)⟩

theorem getD_mem {cs : List Int} {i : Nat} (h : i < cs.length) : cs.getD i 0 ∈ cs := by
  have : cs.getD i 0 = cs[i] := by simp [List.getD, h]
  rw [this]; exact List.getElem_mem h

theorem mem_getD {cs : List Int} {c : Int} (h : c ∈ cs) : ∃ i, i < cs.length ∧ cs.getD i 0 = c := by
  obtain ⟨i, hi, e⟩ := List.getElem_of_mem h
  exact ⟨i, hi, by simp [List.getD, hi, e]⟩

theorem vc_len {cs : List Int} (h : vCoins cs = true) : 1 ≤ cs.length ∧ cs.length ≤ 5 := (vCoins_iff.1 h).1

theorem vc_pos {cs : List Int} (h : vCoins cs = true) : Pos cs := fun c hc => by
  obtain ⟨i, hi, rfl⟩ := mem_getD hc
  exact (okC_true ((vCoins_iff.1 h).2 i hi)).1.1

theorem vc_at {cs : List Int} (h : vCoins cs = true) {i : Nat} (hi : i < cs.length) : 1 ≤ cs.getD i 0 ∧ cs.getD i 0 ≤ 30 := (okC_true ((vCoins_iff.1 h).2 i hi)).1

theorem vc_30 {cs : List Int} (h : vCoins cs = true) : ∀ c ∈ cs, c ≤ 30 := fun c hc => by
  obtain ⟨i, hi, rfl⟩ := mem_getD hc
  exact (vc_at h hi).2

theorem vc_lt {cs : List Int} (h : vCoins cs = true) : ∀ j i : Nat, i < j → j < cs.length → cs.getD i 0 < cs.getD j 0
  | 0, i, h1, _ => by omega
  | j + 1, i, h1, h2 => by
    have h3 := (okC_true ((vCoins_iff.1 h).2 (j + 1) h2)).2 (by omega)
    rw [Nat.add_sub_cancel] at h3
    by_cases e : i = j
    · subst e; exact h3
    · have := vc_lt h j i (by omega) (by omega)
      omega

theorem vc_sorted {cs : List Int} (h : vCoins cs = true) : cs.Pairwise (· < ·) := by
  rw [List.pairwise_iff_getElem]
  intro i j hi hj hij
  have := vc_lt h j i hij hj
  simpa [List.getD, hi, hj] using this

theorem vc_head {cs : List Int} (h : vCoins cs = true) : cs.head? = some (cs.getD 0 0) := by
  have := (vc_len h).1
  cases cs with
  | nil => simp at this
  | cons a l => rfl

/-- The greatest coin is the last one. -/
theorem vc_last {cs : List Int} (h : vCoins cs = true) : ∀ c ∈ cs, c ≤ cs.getD (cs.length - 1) 0 := fun c hc => by
  obtain ⟨i, hi, rfl⟩ := mem_getD hc
  by_cases e : i = cs.length - 1
  · rw [e]; omega
  · have := vc_lt h (cs.length - 1) i (by omega) (by omega)
    omega

theorem inRange_sat (x lo hi : Int) (r : Bool) (w : World) (h : inR x lo hi = r) : Calls Tryz.prog 38 #[.int .i64 x, .int .i64 lo, .int .i64 hi] w fun e w' => e = .returned (.bool r) ∧ w = w' := by
  subst h; exact inRange_spec _ _ _ _

set_option maxHeartbeats 1600000 in
set_option maxRecDepth 100000 in
theorem validCoins_spec (v : Value) (cs : List Int) (w : World) (hv : IsInts w v cs) (hl : cs.length ≤ 9223372036854775807) :
    Calls Tryz.prog 37 #[v] w fun e w' => e = .returned (.bool (vCoins cs)) ∧ Drawn w w' := by
  obtain ⟨a, cap, rfl, hc⟩ := hv
  go_enter Tryz.func37, Tryz.ntmps37
  go_wp2
  go_loopw [3] (fun s wr => ∃ k : Nat, k ≤ cs.length ∧ s = .int .i64 k ∧ (∀ j, j < k → okC cs j = true) ∧ Drawn w wr) (fun s _ => cs.length - (intOf s).toNat)
  case atStart => exact ⟨0, Nat.zero_le _, rfl, fun j hj => by omega, Drawn.refl _⟩
  case round =>
    obtain ⟨k, hk, rfl, hok, hdr⟩ := hrel
    have HOK := Lib.hid hok
    clear hok
    by_cases hlt : k < cs.length
    · obtain ⟨b, off, rfl, c0⟩ := hc k hlt
      have d0 : wr.cell? ⟨b, off + k, none⟩ = some (.int .i64 (cs.getD k 0)) := (hdr.cell _).trans c0
      have k1 : (k : Int) < (cs.length : Int) := by omega
      have CF : ∀ q n lo hi, Calls Tryz.prog 38 #[.int .i64 n, .int .i64 lo, .int .i64 hi] (wr.drewN q) fun e w' => e = .returned (.bool (inR n lo hi)) ∧ ∃ m, w' = wr.drewN m := fun q n lo hi => quiet_left (inRange_spec _ _ _ _)
      have HO : Hid (okC cs k = (inR (cs.getD k 0) 1 30 && (decide (k = 0) || decide (cs.getD (k - 1) 0 < cs.getD k 0)))) := rfl
      have HV : Hid (okC cs k = false → vCoins cs = false) := vCoins_no hlt
      obtain ⟨y, hy⟩ : ∃ y, y = cs.getD (k - 1) 0 := ⟨_, rfl⟩
      have HP : Hid (0 < k → wr.cell? ⟨b, off + (k - 1), none⟩ = some (.int .i64 y)) := fun h0 => by
        obtain ⟨b', off', e, cp0⟩ := hc (k - 1) (by omega)
        simp only [Option.some.injEq, Addr.mk.injEq, and_true] at e
        obtain ⟨rfl, rfl⟩ := e
        rw [hy]
        exact (hdr.cell _).trans cp0
      rw [← hy] at HO
      clear hy hc c0
      generalize cs.getD k 0 = x at *
      cases h1 : inR x 1 30
      · have C1 : Hid (∀ q, Calls Tryz.prog 38 #[.int .i64 x, .int .i64 1, .int .i64 30] (wr.drewN q) fun e w' => e = .returned (.bool false) ∧ ∃ m, w' = wr.drewN m) := fun q => by rw [← h1]; exact CF q _ _ _
        clear CF
        have HF : Hid (vCoins cs = false) := HV.out (by rw [HO.out, h1]; rfl)
        clear h1 HO HV HP
        go_wp2
        go_quiet ((go_at_call 38; exact C1.out _))
        go_wp2
        go_ret
        exact ⟨ret_bool HF.out.symm, hdr.more _⟩
      · have C1 : Hid (∀ q, Calls Tryz.prog 38 #[.int .i64 x, .int .i64 1, .int .i64 30] (wr.drewN q) fun e w' => e = .returned (.bool true) ∧ ∃ m, w' = wr.drewN m) := fun q => by rw [← h1]; exact CF q _ _ _
        have H1 := Lib.hid h1
        clear CF h1
        by_cases hk0 : 0 < k
        · have hkI : (0 : Int) < (k : Int) := by omega
          have dp := HP.out hk0
          have m1 : 1 ≤ (k : Int) := by omega
          have m2 : (k : Int) - 1 < (cs.length : Int) := by omega
          have m3 : ((k : Int) - 1).toNat = k - 1 := by omega
          clear HP
          by_cases hle : x ≤ y
          · have HF : Hid (vCoins cs = false) := HV.out (by rw [HO.out, H1.out, decide_eq_false (show ¬ k = 0 by omega), decide_eq_false (show ¬ y < x by omega)]; rfl)
            clear H1 HO HV
            go_wp2
            go_quiet ((go_at_call 38; exact C1.out _))
            go_wp2
            go_ret
            exact ⟨ret_bool HF.out.symm, hdr.more _⟩
          · have HK : Hid (okC cs k = true) := by show _ = _; rw [HO.out, H1.out, decide_eq_true (show y < x by omega), Bool.or_true]; rfl
            clear H1 HO HV
            go_wp2
            go_quiet ((go_at_call 38; exact C1.out _))
            go_wp2
            go_roundw
            case rel =>
              refine ⟨k + 1, by omega, by go_num, fun j hj => ?_, hdr.more _⟩
              by_cases hjk : j = k
              · subst hjk; exact HK.out
              · exact HOK.out j (by omega)
            case measure => simp [intOf]; omega
        · have hkI : (k : Int) ≤ 0 := by omega
          have HK : Hid (okC cs k = true) := by show _ = _; rw [HO.out, H1.out, decide_eq_true (show k = 0 by omega)]; rfl
          clear H1 HO HV HP
          go_wp2
          go_quiet ((go_at_call 38; exact C1.out _))
          go_wp2
          go_roundw
          case rel =>
            refine ⟨k + 1, by omega, by go_num, fun j hj => ?_, hdr.more _⟩
            by_cases hjk : j = k
            · subst hjk; exact HK.out
            · exact HOK.out j (by omega)
          case measure => simp [intOf]; omega
    · have HE := Lib.hid (vCoins_end (cs := cs) (fun j hj => HOK.out j (by omega)))
      go_wp2_with (go_at_call 38; refine (inRange_spec _ _ _ _).mono ?_; rintro e w' ⟨rfl, rfl⟩)
      go_ret
      exact ⟨ret_bool HE.out.symm, hdr⟩

theorem validCoins_sat (v : Value) (cs : List Int) (r : Bool) (w : World) (hv : IsInts w v cs) (hl : cs.length ≤ 9223372036854775807) (h : vCoins cs = r) :
    Calls Tryz.prog 37 #[v] w fun e w' => e = .returned (.bool r) ∧ Drawn w w' := by
  subst h; exact validCoins_spec _ _ _ hv hl


end Go.Proofs.YtpenbkfchgeafaaGreatDoor

namespace Go.Proofs.YtpenbkfchgeafaaGreatDoor
open Go.RowKit

theorem set_fill (xs : List Int) (k : Nat) (h : k < xs.length) :
    ((xs.take k).map (Value.int .i64) ++ List.replicate (xs.length - k) (Value.int .i64 0)).set k (.int .i64 xs[k]) = (xs.take (k + 1)).map (Value.int .i64) ++ List.replicate (xs.length - (k + 1)) (Value.int .i64 0) := by
  have e : xs.length - k = (xs.length - (k + 1)) + 1 := by omega
  rw [e, List.replicate_succ, List.take_succ_eq_append_getElem h, List.map_append, List.append_assoc]
  have hl : ((xs.take k).map (Value.int .i64)).length = k := by simp; omega
  rw [List.set_append_right _ _ (by omega), hl, Nat.sub_self]
  rfl

theorem take_eq_of (xs ys : List Int) (k : Nat) (h : k < xs.length) (h' : k < ys.length) (e : xs.take k = ys.take k) (he : xs[k] = ys[k]) : xs.take (k + 1) = ys.take (k + 1) := by
  rw [List.take_succ_eq_append_getElem h, List.take_succ_eq_append_getElem h', e, he]

end Go.Proofs.YtpenbkfchgeafaaGreatDoor
