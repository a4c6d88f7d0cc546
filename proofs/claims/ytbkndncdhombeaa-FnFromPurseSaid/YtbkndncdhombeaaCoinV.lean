/- The values of coins, in the model. -/
import Derived.Test.YtbkndncdhombeaaCoinG
import Derived.Test.YtbkndncdhombeaaWorld
namespace Go.Proofs.Ytbkndncdhombeaa
open Go.RowKit

def okC (cs : List Int) (i : Nat) : Bool := inR (cs.getD i 0) 1 30 && (decide (i = 0) || decide (cs.getD (i - 1) 0 < cs.getD i 0))
/-- Are numbers the values of coins? -/
def vCoins (cs : List Int) : Bool := inR cs.length 1 5 && (List.range cs.length).all (okC cs)

theorem vCoins_no {cs : List Int} {i : Nat} (h : i < cs.length) (hf : okC cs i = false) : vCoins cs = false := by
  unfold vCoins
  have : (List.range cs.length).all (okC cs) = false := by
    rw [List.all_eq_false]
    exact ⟨i, by simpa using h, by simp [hf]⟩
  rw [this, Bool.and_false]

theorem vCoins_end {cs : List Int} (h : ∀ i, i < cs.length → okC cs i = true) : vCoins cs = inR cs.length 1 5 := by
  unfold vCoins
  rw [List.all_eq_true.2 (fun i hi => h i (List.mem_range.1 hi)), Bool.and_true]

theorem okC_true {cs : List Int} {i : Nat} (h : okC cs i = true) : (1 ≤ cs.getD i 0 ∧ cs.getD i 0 ≤ 30) ∧ (0 < i → cs.getD (i - 1) 0 < cs.getD i 0) := by
  unfold okC at h
  rw [Bool.and_eq_true, Bool.or_eq_true, decide_eq_true_iff, decide_eq_true_iff] at h
  exact ⟨inR_true h.1, fun h0 => by rcases h.2 with h2 | h2 <;> omega⟩

theorem vCoins_iff {cs : List Int} : vCoins cs = true ↔ (1 ≤ cs.length ∧ cs.length ≤ 5) ∧ ∀ i, i < cs.length → okC cs i = true := by
  unfold vCoins
  rw [Bool.and_eq_true, List.all_eq_true]
  constructor
  · rintro ⟨h1, h2⟩
    have := inR_true h1
    exact ⟨by omega, fun i hi => h2 i (List.mem_range.2 hi)⟩
  · rintro ⟨h1, h2⟩
    exact ⟨by unfold inR; exact decide_eq_true (by omega), fun i hi => h2 i (List.mem_range.1 hi)⟩

theorem getD_mem {cs : List Int} {i : Nat} (h : i < cs.length) : cs.getD i 0 ∈ cs := by
  have : cs.getD i 0 = cs[i] := by simp [List.getD, h]
  rw [this]; exact List.getElem_mem h

theorem mem_getD {cs : List Int} {c : Int} (h : c ∈ cs) : ∃ i, i < cs.length ∧ cs.getD i 0 = c := by
  obtain ⟨i, hi, e⟩ := List.getElem_of_mem h
  exact ⟨i, hi, by simp [List.getD, hi, e]⟩

theorem vc_len {cs : List Int} (h : vCoins cs = true) : 1 ≤ cs.length ∧ cs.length ≤ 5 := (vCoins_iff.1 h).1

theorem vc_pos {cs : List Int} (h : vCoins cs = true) : Pos cs := fun c hc => by
  obtain ⟨i, hi, rfl⟩ := mem_getD hc
  exact (okC_true ((vCoins_iff.1 h).2 i hi)).1.1

theorem vc_at {cs : List Int} (h : vCoins cs = true) {i : Nat} (hi : i < cs.length) : 1 ≤ cs.getD i 0 ∧ cs.getD i 0 ≤ 30 := (okC_true ((vCoins_iff.1 h).2 i hi)).1

theorem vc_30 {cs : List Int} (h : vCoins cs = true) : ∀ c ∈ cs, c ≤ 30 := fun c hc => by
  obtain ⟨i, hi, rfl⟩ := mem_getD hc
  exact (vc_at h hi).2

theorem vc_lt {cs : List Int} (h : vCoins cs = true) : ∀ j i : Nat, i < j → j < cs.length → cs.getD i 0 < cs.getD j 0
  | 0, i, h1, _ => by omega
  | j + 1, i, h1, h2 => by
    have h3 := (okC_true ((vCoins_iff.1 h).2 (j + 1) h2)).2 (by omega)
    rw [Nat.add_sub_cancel] at h3
    by_cases e : i = j
    · subst e; exact h3
    · have := vc_lt h j i (by omega) (by omega)
      omega

theorem vc_sorted {cs : List Int} (h : vCoins cs = true) : cs.Pairwise (· < ·) := by
  rw [List.pairwise_iff_getElem]
  intro i j hi hj hij
  have := vc_lt h j i hij hj
  simpa [List.getD, hi, hj] using this

theorem vc_head {cs : List Int} (h : vCoins cs = true) : cs.head? = some (cs.getD 0 0) := by
  have := (vc_len h).1
  cases cs with
  | nil => simp at this
  | cons a l => rfl

/-- The greatest coin is the last one. -/
theorem vc_last {cs : List Int} (h : vCoins cs = true) : ∀ c ∈ cs, c ≤ cs.getD (cs.length - 1) 0 := fun c hc => by
  obtain ⟨i, hi, rfl⟩ := mem_getD hc
  by_cases e : i = cs.length - 1
  · rw [e]; omega
  · have := vc_lt h (cs.length - 1) i (by omega) (by omega)
    omega

theorem inRange_sat (x lo hi : Int) (r : Bool) (w : World) (h : inR x lo hi = r) : Calls Try.prog 50 #[.int .i64 x, .int .i64 lo, .int .i64 hi] w fun e w' => e = .returned (.bool r) ∧ w = w' := by
  subst h; exact inRange_spec _ _ _ _

set_option maxHeartbeats 1600000 in
set_option maxRecDepth 100000 in
theorem validCoins_spec (v : Value) (cs : List Int) (w : World) (hv : IsInts w v cs) (hl : cs.length ≤ 9223372036854775807) :
    Calls Try.prog 45 #[v] w fun e w' => e = .returned (.bool (vCoins cs)) ∧ Drawn w w' := by
  obtain ⟨a, cap, rfl, hc⟩ := hv
  go_enter Try.func45, Try.ntmps45
  go_wp2
  go_loopw [3] (fun s wr => ∃ k : Nat, k ≤ cs.length ∧ s = .int .i64 k ∧ (∀ j, j < k → okC cs j = true) ∧ Drawn w wr) (fun s _ => cs.length - (intOf s).toNat)
  case atStart => exact ⟨0, Nat.zero_le _, rfl, fun j hj => by omega, Drawn.refl _⟩
  case round =>
    obtain ⟨k, hk, rfl, hok, hdr⟩ := hrel
    have HOK := Lib.hid hok
    clear hok
    by_cases hlt : k < cs.length
    · obtain ⟨b, off, rfl, c0⟩ := hc k hlt
      have d0 : wr.cell? ⟨b, off + k, none⟩ = some (.int .i64 (cs.getD k 0)) := (hdr.cell _).trans c0
      have k1 : (k : Int) < (cs.length : Int) := by omega
      have CF : ∀ q n lo hi, Calls Try.prog 50 #[.int .i64 n, .int .i64 lo, .int .i64 hi] (wr.drewN q) fun e w' => e = .returned (.bool (inR n lo hi)) ∧ ∃ m, w' = wr.drewN m := fun q n lo hi => quiet_left (inRange_spec _ _ _ _)
      have HO : Hid (okC cs k = (inR (cs.getD k 0) 1 30 && (decide (k = 0) || decide (cs.getD (k - 1) 0 < cs.getD k 0)))) := rfl
      have HV : Hid (okC cs k = false → vCoins cs = false) := vCoins_no hlt
      obtain ⟨y, hy⟩ : ∃ y, y = cs.getD (k - 1) 0 := ⟨_, rfl⟩
      have HP : Hid (0 < k → wr.cell? ⟨b, off + (k - 1), none⟩ = some (.int .i64 y)) := fun h0 => by
        obtain ⟨b', off', e, cp0⟩ := hc (k - 1) (by omega)
        simp only [Option.some.injEq, Addr.mk.injEq, and_true] at e
        obtain ⟨rfl, rfl⟩ := e
        rw [hy]
        exact (hdr.cell _).trans cp0
      rw [← hy] at HO
      clear hy hc c0
      generalize cs.getD k 0 = x at *
      cases h1 : inR x 1 30
      · have C1 : Hid (∀ q, Calls Try.prog 50 #[.int .i64 x, .int .i64 1, .int .i64 30] (wr.drewN q) fun e w' => e = .returned (.bool false) ∧ ∃ m, w' = wr.drewN m) := fun q => by rw [← h1]; exact CF q _ _ _
        clear CF
        have HF : Hid (vCoins cs = false) := HV.out (by rw [HO.out, h1]; rfl)
        clear h1 HO HV HP
        go_wp2
        go_quiet ((go_at_call 50; exact C1.out _))
        go_wp2
        go_ret
        exact ⟨ret_bool HF.out.symm, hdr.more _⟩
      · have C1 : Hid (∀ q, Calls Try.prog 50 #[.int .i64 x, .int .i64 1, .int .i64 30] (wr.drewN q) fun e w' => e = .returned (.bool true) ∧ ∃ m, w' = wr.drewN m) := fun q => by rw [← h1]; exact CF q _ _ _
        have H1 := Lib.hid h1
        clear CF h1
        by_cases hk0 : 0 < k
        · have hkI : (0 : Int) < (k : Int) := by omega
          have dp := HP.out hk0
          have m1 : 1 ≤ (k : Int) := by omega
          have m2 : (k : Int) - 1 < (cs.length : Int) := by omega
          have m3 : ((k : Int) - 1).toNat = k - 1 := by omega
          clear HP
          by_cases hle : x ≤ y
          · have HF : Hid (vCoins cs = false) := HV.out (by rw [HO.out, H1.out, decide_eq_false (show ¬ k = 0 by omega), decide_eq_false (show ¬ y < x by omega)]; rfl)
            clear H1 HO HV
            go_wp2
            go_quiet ((go_at_call 50; exact C1.out _))
            go_wp2
            go_ret
            exact ⟨ret_bool HF.out.symm, hdr.more _⟩
          · have HK : Hid (okC cs k = true) := by show _ = _; rw [HO.out, H1.out, decide_eq_true (show y < x by omega), Bool.or_true]; rfl
            clear H1 HO HV
            go_wp2
            go_quiet ((go_at_call 50; exact C1.out _))
            go_wp2
            go_roundw
            case rel =>
              refine ⟨k + 1, by omega, by go_num, fun j hj => ?_, hdr.more _⟩
              by_cases hjk : j = k
              · subst hjk; exact HK.out
              · exact HOK.out j (by omega)
            case measure => simp [intOf]; omega
        · have hkI : (k : Int) ≤ 0 := by omega
          have HK : Hid (okC cs k = true) := by show _ = _; rw [HO.out, H1.out, decide_eq_true (show k = 0 by omega)]; rfl
          clear H1 HO HV HP
          go_wp2
          go_quiet ((go_at_call 50; exact C1.out _))
          go_wp2
          go_roundw
          case rel =>
            refine ⟨k + 1, by omega, by go_num, fun j hj => ?_, hdr.more _⟩
            by_cases hjk : j = k
            · subst hjk; exact HK.out
            · exact HOK.out j (by omega)
          case measure => simp [intOf]; omega
    · have HE := Lib.hid (vCoins_end (cs := cs) (fun j hj => HOK.out j (by omega)))
      go_wp2_with (go_at_call 50; refine (inRange_spec _ _ _ _).mono ?_; rintro e w' ⟨rfl, rfl⟩)
      go_ret
      exact ⟨ret_bool HE.out.symm, hdr⟩

theorem validCoins_sat (v : Value) (cs : List Int) (r : Bool) (w : World) (hv : IsInts w v cs) (hl : cs.length ≤ 9223372036854775807) (h : vCoins cs = r) :
    Calls Try.prog 45 #[v] w fun e w' => e = .returned (.bool r) ∧ Drawn w w' := by
  subst h; exact validCoins_spec _ _ _ hv hl


end Go.Proofs.Ytbkndncdhombeaa
