/- Debts that go round, as the laws look for them. -/
import Derived.Test.YtbedjebnllimpaaGoM
import Derived.Test.YtbedjebnllimpaaWorld
import Derived.IntWalk
namespace Go.Proofs.Ytbedjebnllimpaa
open Go.RowKit

set_option maxHeartbeats 800000 in
theorem power_law (n : Nat) (w : World) (hn : n ≤ 6) :
    Calls Try.prog 75 #[.int .i64 n] w fun e w' => e = .returned (.int .i64 ((2 ^ n : Nat) : Int)) ∧ w = w' := by
  go_enter Try.func75, Try.ntmps75
  go_wp2
  go_loop [0, 3] (fun s p => ∃ k q : Nat, k ≤ n ∧ s = .int .i64 ((n - k : Nat) : Int) ∧ p = .int .i64 (q : Int) ∧ q = 2 ^ k) (fun s _ => (intOf s).toNat)
  case atStart => exact ⟨0, 1, Nat.zero_le _, rfl, rfl, rfl⟩
  case round =>
    obtain ⟨k, q, hk, rfl, rfl, hq⟩ := hrel
    have hb := pow_le6 (show k ≤ 6 by omega)
    rw [← hq] at hb
    have HQ := Lib.hid hq
    clear hq
    by_cases hlt : k < n
    · have h1 : (0 : Int) < ((n - k : Nat) : Int) := by omega
      have h2 : ((n - k : Nat) : Int) - 1 = ((n - (k + 1) : Nat) : Int) := by omega
      have HN := Lib.hid h2
      clear h2
      generalize hm : ((n - k : Nat) : Int) = m at *
      have hm6 : m ≤ 6 := by omega
      go_wp2
      go_round
      case rel => exact ⟨k + 1, 2 * q, by omega, by rw [← HN.out], by go_num, by rw [HQ.out, Nat.pow_succ, Nat.mul_comm]⟩
      case measure => simp [intOf]; omega
    · have hke : k = n := by omega
      have h1 : ¬ (0 : Int) < ((n - k : Nat) : Int) := by omega
      generalize hm : ((n - k : Nat) : Int) = m at *
      go_wp2
      go_ret
      exact ⟨ret_int (by have h := HQ.out; rw [hke] at h; rw [h]; try simp), rfl⟩

set_option maxHeartbeats 800000 in
theorem bit_law (s j : Nat) (w : World) (hj : j ≤ 6) (hs : s ≤ 64) :
    Calls Try.prog 76 #[.int .i64 s, .int .i64 j] w fun e w' => e = .returned (.int .i64 ((bitN s j : Nat) : Int)) ∧ w = w' := by
  have hb := pow_le6 hj
  have H := Lib.hid (power_law j w hj)
  go_enter Try.func76, Try.ntmps76
  go_wp2_with fail
  refine H.out.mono ?_
  rintro e w' ⟨rfl, rfl⟩
  have he : ((bitN s j : Nat) : Int) = (s : Int) / ((2 ^ j : Nat) : Int) % 2 := by unfold bitN; simp
  have HE := Lib.hid he
  clear he
  generalize 2 ^ j = p at *
  have hd0 : 0 ≤ (s : Int) / (p : Int) := Int.ediv_nonneg (by omega) (by omega)
  have hd1 : (s : Int) / (p : Int) ≤ s := Int.ediv_le_self _ (by omega)
  have hp : (p : Int) ≠ 0 := by omega
  go_wp2
  go_ret
  exact ⟨ret_int (by rw [HE.out]), rfl⟩

/-- Does a owe one of the first friends that are left? -/
def owedN (g : List (List Int)) (s a : Nat) : Nat → Bool
  | 0 => false
  | b + 1 => owedN g s a b || (decide (bitN s b = 1) && decide (0 < cellOf g a b))
/-- Who is left when a has been looked at. -/
def stepG (g : List (List Int)) (s a : Nat) : Nat := if bitN s a = 1 ∧ owedN g s a g.length = false then s - 2 ^ a else s
def passG (g : List (List Int)) (s : Nat) : Nat → Nat
  | 0 => s
  | a + 1 => stepG g (passG g s a) a
def goG (g : List (List Int)) (s : Nat) : Nat → Nat
  | 0 => s
  | k + 1 => passG g (goG g s k) g.length

theorem bit_drop_fin : ∀ s : Fin 64, ∀ a b : Fin 6, bitN s.val a.val = 1 → bitN (s.val - 2 ^ a.val) b.val = if b.val = a.val then 0 else bitN s.val b.val := by decide +kernel
theorem bit_drop6 {s a b : Nat} (hs : s < 64) (ha : a < 6) (hb : b < 6) (h : bitN s a = 1) : bitN (s - 2 ^ a) b = if b = a then 0 else bitN s b := bit_drop_fin ⟨s, hs⟩ ⟨a, ha⟩ ⟨b, hb⟩ h
theorem bit_zero_fin : ∀ s : Fin 64, (∀ i : Fin 6, bitN s.val i.val = 0) → s.val = 0 := by decide +kernel
theorem bit_high_fin : ∀ n : Fin 7, ∀ s : Fin 64, ∀ i : Fin 6, s.val < 2 ^ n.val → n.val ≤ i.val → bitN s.val i.val = 0 := by decide +kernel
theorem bitN_le (s i : Nat) : bitN s i ≤ 1 := by unfold bitN; omega

theorem stepG_le (g : List (List Int)) (s a : Nat) : stepG g s a ≤ s := by
  unfold stepG
  split
  · exact Nat.sub_le _ _
  · exact Nat.le_refl _
theorem passG_le (g : List (List Int)) (s : Nat) : ∀ a, passG g s a ≤ s
  | 0 => Nat.le_refl _
  | a + 1 => Nat.le_trans (stepG_le g _ a) (passG_le g s a)
theorem passG_anti (g : List (List Int)) (s : Nat) : ∀ m a, passG g s (a + m) ≤ passG g s a
  | 0, _ => Nat.le_refl _
  | m + 1, a => Nat.le_trans (stepG_le g _ (a + m)) (passG_anti g s m a)
theorem goG_le (g : List (List Int)) (s : Nat) : ∀ k, goG g s k ≤ s
  | 0 => Nat.le_refl _
  | k + 1 => Nat.le_trans (passG_le g _ _) (goG_le g s k)

/-- How many of the first are in the set. -/
def cntB (s : Nat) : Nat → Nat
  | 0 => 0
  | i + 1 => cntB s i + bitN s i
theorem cntB_le (s : Nat) : ∀ n, cntB s n ≤ n
  | 0 => Nat.le_refl _
  | n + 1 => by have := cntB_le s n; have := bitN_le s n; rw [cntB]; omega
theorem cntB_drop {s a : Nat} (hs : s < 64) (ha : a < 6) (h : bitN s a = 1) : ∀ n, n ≤ 6 → cntB (s - 2 ^ a) n + (if a < n then 1 else 0) = cntB s n
  | 0, _ => by simp [cntB]
  | n + 1, hn => by
    have ih := cntB_drop hs ha h n (by omega)
    rw [cntB, cntB, bit_drop6 hs ha (show n < 6 by omega) h]
    by_cases e : n = a
    · subst e
      rw [if_neg (Nat.lt_irrefl _)] at ih
      rw [if_pos rfl, if_pos (Nat.lt_succ_self _), h]; omega
    · rw [if_neg e]
      by_cases h2 : a < n
      · rw [if_pos h2] at ih; rw [if_pos (by omega)]; omega
      · rw [if_neg h2] at ih; rw [if_neg (by omega)]; omega
theorem cntB_step (g : List (List Int)) {s a n : Nat} (hs : s < 64) (ha : a < n) (hn : n ≤ 6) : cntB (stepG g s a) n + (if stepG g s a = s then 0 else 1) ≤ cntB s n := by
  unfold stepG
  by_cases h : bitN s a = 1 ∧ owedN g s a g.length = false
  · rw [if_pos h]
    have h1 := cntB_drop hs (show a < 6 by omega) h.1 n hn
    rw [if_pos ha] at h1
    split <;> omega
  · rw [if_neg h]; simp
theorem cntB_pass (g : List (List Int)) {s n : Nat} (hs : s < 64) (hn : n ≤ 6) : ∀ a, a ≤ n → cntB (passG g s a) n + (if passG g s a = s then 0 else 1) ≤ cntB s n
  | 0, _ => by simp [passG]
  | a + 1, ha => by
    have ih := cntB_pass g hs hn a (by omega)
    have hle := passG_le g s a
    have h1 := cntB_step g (s := passG g s a) (a := a) (n := n) (by omega) (by omega) hn
    have h2 := stepG_le g (passG g s a) a
    rw [passG]
    by_cases e : stepG g (passG g s a) a = passG g s a
    · rw [e]; exact ih
    · rw [if_neg e] at h1
      have e2 : stepG g (passG g s a) a ≠ s := by omega
      rw [if_neg e2]
      omega

theorem pass_fix {g : List (List Int)} {s : Nat} (h : passG g s g.length = s) (a : Nat) (ha : a < g.length) : passG g s a = s ∧ stepG g s a = s := by
  have h1 := passG_anti g s (g.length - a) a
  rw [show a + (g.length - a) = g.length by omega, h] at h1
  have h2 := passG_le g s a
  have e : passG g s a = s := by omega
  refine ⟨e, ?_⟩
  have h3 := passG_anti g s (g.length - (a + 1)) (a + 1)
  rw [show a + 1 + (g.length - (a + 1)) = g.length by omega, h, passG, e] at h3
  have h4 := stepG_le g s a
  omega

theorem owedN_true {g : List (List Int)} {s a : Nat} : ∀ n, owedN g s a n = true → ∃ b, b < n ∧ bitN s b = 1 ∧ 0 < cellOf g a b
  | 0, h => by cases h
  | n + 1, h => by
    rw [owedN, Bool.or_eq_true, Bool.and_eq_true, decide_eq_true_eq, decide_eq_true_eq] at h
    rcases h with h | h
    · obtain ⟨b, h1, h2⟩ := owedN_true n h
      exact ⟨b, by omega, h2⟩
    · exact ⟨n, by omega, h⟩

/-- Debts without circles go nowhere round. -/
theorem goes_none {g : List (List Int)} (hv : vDebts g = true) (hfc : fcF g = none) : goG g (2 ^ g.length - 1) g.length = 0 := by
  have hn := ((vDebts_iff g).1 hv).1
  have hp := pow_le6 hn.2
  have hall : ∀ k, passG g (goG g (2 ^ g.length - 1) k) g.length = goG g (2 ^ g.length - 1) k ∨ cntB (goG g (2 ^ g.length - 1) k) g.length + k ≤ g.length := by
    intro k
    induction k with
    | zero => exact .inr (cntB_le _ _)
    | succ k ih =>
      have hle := goG_le g (2 ^ g.length - 1) k
      rcases ih with h | h
      · left; rw [goG, h, h]
      · by_cases e : passG g (goG g (2 ^ g.length - 1) k) g.length = goG g (2 ^ g.length - 1) k
        · left; rw [goG, e, e]
        · right
          have h2 := cntB_pass g (s := goG g (2 ^ g.length - 1) k) (n := g.length) (by omega) hn.2 g.length (Nat.le_refl _)
          rw [if_neg e] at h2
          rw [goG]; omega
  have hle := goG_le g (2 ^ g.length - 1) g.length
  generalize hs : goG g (2 ^ g.length - 1) g.length = s at *
  have hs64 : s < 64 := by omega
  have hz : (∀ i, i < g.length → bitN s i = 0) → s = 0 := fun h => bit_zero_fin ⟨s, hs64⟩ fun i => by
    by_cases e : i.val < g.length
    · exact h _ e
    · exact bit_high_fin ⟨g.length, by omega⟩ ⟨s, hs64⟩ i (by show s < 2 ^ g.length; omega) (by show g.length ≤ i.val; omega)
  apply Classical.byContradiction
  intro hne
  have hex : ∃ a, a < g.length ∧ bitN s a = 1 := Classical.byContradiction fun hno => hne (hz fun i hi => by
    have h1 := bitN_le s i
    have h2 : bitN s i ≠ 1 := fun e => hno ⟨i, hi, e⟩
    omega)
  have hfix : passG g s g.length = s := by
    have h := hall g.length
    rw [hs] at h
    rcases h with h | h
    · exact h
    · exfalso
      have hc0 : cntB s g.length = 0 := by omega
      have : ∀ m, m ≤ g.length → cntB s m = 0 → ∀ i, i < m → bitN s i = 0 := by
        intro m
        induction m with
        | zero => intro _ _ i hi; omega
        | succ m ih =>
          intro hm h i hi
          rw [cntB] at h
          by_cases e : i = m
          · subst e; omega
          · exact ih (by omega) (by omega) i (by omega)
      obtain ⟨a, ha, hb⟩ := hex
      have := this g.length (Nat.le_refl _) hc0 a ha
      omega
  refine trap hv hfc (fun a => bitN s a = 1) hex fun a ha hb => ?_
  have h1 := (pass_fix hfix a ha).2
  unfold stepG at h1
  have h2 : owedN g s a g.length = true := by
    cases ho : owedN g s a g.length
    · rw [if_pos ⟨hb, ho⟩] at h1
      have hbl := bit_le hb
      omega
    · rfl
  exact owedN_true _ h2

set_option maxRecDepth 100000 in
set_option maxHeartbeats 3200000 in
theorem goesRound_any (v : Value) (g : List (List Int)) (w : World) (hv : IsGrid w v g) (hd : vDebts g = true) :
    Calls Try.prog 32 #[v] w fun e w' => e = .returned (.bool (decide (0 < goG g (2 ^ g.length - 1) g.length))) ∧ w = w' := by
  obtain ⟨hn, hrow⟩ := (vDebts_iff g).1 hd
  have hp := pow_le6 hn.2
  have hn6 : g.length ≤ 6 := hn.2
  have HP := Lib.hid (power_law g.length w hn6)
  obtain ⟨a, cap, rfl, _⟩ := id hv
  have HBT : Hid (∀ s j, j ≤ 6 → s ≤ 64 → Calls Try.prog 76 #[.int .i64 ((s : Nat) : Int), .int .i64 ((j : Nat) : Int)] w fun e w' => e = .returned (.int .i64 ((bitN s j : Nat) : Int)) ∧ w = w') := fun s j h1 h2 => bit_law s j w h1 h2
  have HPW : Hid (∀ j : Nat, j ≤ 6 → Calls Try.prog 75 #[.int .i64 ((j : Nat) : Int)] w fun e w' => e = .returned (.int .i64 ((2 ^ j : Nat) : Int)) ∧ w = w') := fun j h => power_law j w h
  have HC : Hid (∀ i, i < g.length → ∃ b off ar cr, a = some ⟨b, off, none⟩ ∧ w.cell? ⟨b, off + i, none⟩ = some (.slice ar g.length cr) ∧ ∀ k, k < g.length → ∃ br fr, ar = some ⟨br, fr, none⟩ ∧ w.cell? ⟨br, fr + k, none⟩ = some (.int .i64 (cellOf g i k))) := fun i hi => by
    obtain ⟨b, off, ar, cr, e, ci, cc⟩ := hv.row i hi
    have hl := (hrow i hi).1
    rw [hl] at ci
    exact ⟨b, off, ar, cr, e, ci, fun k hk => cc k (by omega)⟩
  have HGO : Hid (∀ s k, goG g s (k + 1) = passG g (goG g s k) g.length) := fun _ _ => rfl
  have HPA : Hid (∀ s k, passG g s (k + 1) = stepG g (passG g s k) k) := fun _ _ => rfl
  have HOW : Hid (∀ s x b, owedN g s x (b + 1) = (owedN g s x b || (decide (bitN s b = 1) && decide (0 < cellOf g x b)))) := fun _ _ _ => rfl
  generalize hN : 2 ^ g.length = N at *
  have hgl := goG_le g (N - 1)
  have HGL := Lib.hid hgl
  clear hgl hv hd hrow hn
  go_enter Try.func32, Try.ntmps32
  go_wp2_with fail
  refine HP.out.mono ?_
  rintro e w' ⟨rfl, rfl⟩
  have hN1 : (N : Int) - 1 = ((N - 1 : Nat) : Int) := by omega
  go_wp2
  go_loop [3, 4] (fun lv nv => ∃ k : Nat, k ≤ g.length ∧ nv = .int .i64 k ∧ lv = .int .i64 ((goG g (N - 1) k : Nat) : Int)) (fun _ nv => g.length - (intOf nv).toNat)
  case atStart => exact ⟨0, Nat.zero_le _, rfl, rfl⟩
  case round =>
    obtain ⟨k, hk, rfl, rfl⟩ := hrel
    have hs1 := HGL.out k
    have HG1 := Lib.hid (HGO.out (N - 1) k)
    generalize hs0 : goG g (N - 1) k = s0 at *
    have HS0 := Lib.hid hs0
    clear hs0
    by_cases hlt : k < g.length
    · have i1 : (k : Int) < (g.length : Int) := by omega
      go_wp2
      go_loop [3, 5] (fun lv av => ∃ x : Nat, x ≤ g.length ∧ av = .int .i64 x ∧ lv = .int .i64 ((passG g s0 x : Nat) : Int)) (fun _ av => g.length - (intOf av).toNat)
      case atStart => exact ⟨0, Nat.zero_le _, rfl, rfl⟩
      case round =>
        obtain ⟨x, hx, rfl, rfl⟩ := hrel
        have hs2 := passG_le g s0 x
        have HP1 := Lib.hid (HPA.out s0 x)
        generalize hps : passG g s0 x = s at *
        have HPS := Lib.hid hps
        clear hps
        by_cases hlx : x < g.length
        · have x1 : (x : Int) < (g.length : Int) := by omega
          go_wp2
          go_loop [6, 7] (fun ov bv => ∃ b : Nat, b ≤ g.length ∧ bv = .int .i64 b ∧ ov = .bool (owedN g s x b)) (fun _ bv => g.length - (intOf bv).toNat)
          case atStart => exact ⟨0, Nat.zero_le _, rfl, rfl⟩
          case round =>
            obtain ⟨b, hb, rfl, rfl⟩ := hrel
            have HO1 := Lib.hid (HOW.out s x b)
            by_cases hlb : b < g.length
            · have b1 : (b : Int) < (g.length : Int) := by omega
              cases ho : owedN g s x b
              · obtain ⟨bb, off, ar, cr, rfl, ci, cc⟩ := HC.out x hlx
                obtain ⟨br, fr, rfl, ck⟩ := cc b hlb
                have hbt := HBT.out s b (by omega) (by omega)
                have HB2 := Lib.hid hbt
                have hble := bitN_le s b
                clear hbt cc
                by_cases hbit : bitN s b = 1
                · have HR : Hid (owedN g s x (b + 1) = decide (0 < cellOf g x b)) := by show _ = _; rw [HO1.out, ho, decide_eq_true hbit]; simp
                  have h := HB2.out
                  rw [hbit] at h
                  have HB3 := Lib.hid h
                  clear h hbit ho
                  generalize cellOf g x b = cz at *
                  go_wp2_with (go_at_call 76; refine HB3.out.mono ?_; rintro e w' ⟨rfl, rfl⟩)
                  go_round
                  case rel => exact ⟨b + 1, by omega, by go_num, by rw [HR.out]⟩
                  case measure => simp [intOf]; omega
                · have hb0 : bitN s b = 0 := by omega
                  have HR : Hid (owedN g s x (b + 1) = false) := by show _ = _; rw [HO1.out, ho, decide_eq_false hbit]; rfl
                  have h := HB2.out
                  rw [hb0] at h
                  have HB3 := Lib.hid h
                  clear h hbit ho hb0
                  go_wp2_with (go_at_call 76; refine HB3.out.mono ?_; rintro e w' ⟨rfl, rfl⟩)
                  go_round
                  case rel => exact ⟨b + 1, by omega, by go_num, by rw [HR.out]⟩
                  case measure => simp [intOf]; omega
              · have HR : Hid (owedN g s x (b + 1) = true) := by show _ = _; rw [HO1.out, ho]; rfl
                clear ho
                go_wp2
                go_round
                case rel => exact ⟨b + 1, by omega, by go_num, by rw [HR.out]⟩
                case measure => simp [intOf]; omega
            · have hbe : b = g.length := by omega
              subst hbe
              have hbt := HBT.out s x (by omega) (by omega)
              have HB2 := Lib.hid hbt
              have hble := bitN_le s x
              have HPX := Lib.hid (HPW.out x (by omega))
              clear hbt
              by_cases hbit : bitN s x = 1
              · have hbl := bit_le hbit
                have h := HB2.out
                rw [hbit] at h
                have HB3 := Lib.hid h
                clear h
                cases ho : owedN g s x g.length
                · have HR : Hid (stepG g s x = s - 2 ^ x) := by show _ = _; unfold stepG; rw [if_pos ⟨hbit, ho⟩]
                  clear hbit ho
                  generalize 2 ^ x = p at *
                  have hsp : ((s - p : Nat) : Int) = (s : Int) - (p : Int) := by omega
                  have HSP := Lib.hid hsp
                  clear hsp
                  go_wp2_with (first | (go_at_call 76; refine HB3.out.mono ?_; rintro e w' ⟨rfl, rfl⟩) | (go_at_call 75; refine HPX.out.mono ?_; rintro e w' ⟨rfl, rfl⟩))
                  go_round
                  case rel => exact ⟨x + 1, by omega, by go_num, by rw [HP1.out, HR.out, HSP.out]⟩
                  case measure => simp [intOf]; omega
                · have HR : Hid (stepG g s x = s) := by show _ = _; unfold stepG; rw [if_neg (by rw [ho]; simp)]
                  clear hbit ho hbl
                  go_wp2_with (go_at_call 76; refine HB3.out.mono ?_; rintro e w' ⟨rfl, rfl⟩)
                  go_round
                  case rel => exact ⟨x + 1, by omega, by go_num, by rw [HP1.out, HR.out]⟩
                  case measure => simp [intOf]; omega
              · have hb0 : bitN s x = 0 := by omega
                have HR : Hid (stepG g s x = s) := by show _ = _; unfold stepG; rw [if_neg (fun h => hbit h.1)]
                have h := HB2.out
                rw [hb0] at h
                have HB3 := Lib.hid h
                clear h hbit hb0
                go_wp2_with (go_at_call 76; refine HB3.out.mono ?_; rintro e w' ⟨rfl, rfl⟩)
                go_round
                case rel => exact ⟨x + 1, by omega, by go_num, by rw [HP1.out, HR.out]⟩
                case measure => simp [intOf]; omega
        · have hxe : x = g.length := by omega
          subst hxe
          go_wp2
          go_round
          case rel => exact ⟨k + 1, by omega, by go_num, by rw [HG1.out, HPS.out]⟩
          case measure => simp [intOf]; omega
    · have hke : k = g.length := by omega
      subst hke
      go_wp2
      go_ret
      exact ⟨ret_bool (by rw [HS0.out]), rfl⟩

end Go.Proofs.Ytbedjebnllimpaa
