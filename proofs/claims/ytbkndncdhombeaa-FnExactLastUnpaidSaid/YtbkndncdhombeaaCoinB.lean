/- LastUnpaid, in the model. -/
import Derived.Test.YtbkndncdhombeaaCoinF
import Derived.Test.YtbkndncdhombeaaCoinK
import Derived.Test.YtbkndncdhombeaaCoinC
namespace Go.Proofs.Ytbkndncdhombeaa
open Go.RowKit

set_option maxHeartbeats 1600000 in
theorem gcd_spec (a b : Nat) (w : World) (ha : a ≤ 1000000) (hb : b ≤ 1000000) :
    Calls Try.prog 55 #[.int .i64 (a : Int), .int .i64 (b : Int)] w fun e w' => e = .returned (.int .i64 ((Nat.gcd a b : Nat) : Int)) ∧ w = w' := by
  go_enter Try.func55, Try.ntmps55
  go_wp2
  go_loopw [0, 1, 5] (fun av bv _ wr => ∃ x y : Nat, av = .int .i64 x ∧ bv = .int .i64 y ∧ x ≤ 1000000 ∧ y ≤ 1000000 ∧ Nat.gcd x y = Nat.gcd a b ∧ wr = w) (fun _ bv _ _ => (intOf bv).toNat)
  case atStart => exact ⟨a, b, rfl, rfl, ha, hb, rfl, rfl⟩
  case round =>
    obtain ⟨x, y, rfl, rfl, hx, hy, hg, rfl⟩ := hrel
    have HG := Lib.hid hg
    clear hg
    by_cases h : 0 < y
    · have y1 : (0 : Int) < (y : Int) := by omega
      have y2 : (y : Int) ≠ 0 := by omega
      have hm0 := Int.emod_nonneg (x : Int) y2
      have hm1 := Int.emod_lt_of_pos (x : Int) y1
      have l3 : x % y < y := Nat.mod_lt _ h
      have HN : Hid (Nat.gcd y (x % y) = Nat.gcd a b) := by
        show _ = _
        rw [← HG.out, Nat.gcd_comm y (x % y), ← Nat.gcd_rec y x, Nat.gcd_comm]
      go_wp2
      go_roundw
      case rel => exact ⟨y, x % y, rfl, by go_num, hy, by omega, HN.out, trivial⟩
      case measure => simp [intOf]; omega
    · have y0 : y = 0 := by omega
      subst y0
      have HN : Hid (((Nat.gcd a b : Nat) : Int) = (x : Int)) := by show _ = _; rw [← HG.out, Nat.gcd_zero_right]
      have y1 : ¬ (0 : Int) < ((0 : Nat) : Int) := by omega
      go_wp2
      go_ret
      exact ⟨ret_int HN.out.symm, rfl⟩

/-- Is there an answer of LastUnpaid? -/
def cLast (cs : List Int) : Bool := vCoins cs && decide (gcdL cs = 1)
def lastP (cs : List Int) : Int × Int := if cLast cs = true then lastU (fun x => pyB cs x) 900 else (0, 0)

theorem last_top {cs : List Int} (h : vCoins cs = true) (hg : gcdL cs = 1) {t : Nat} (ht : (t : Int) = cs.getD 0 0 * cs.getD (cs.length - 1) 0) : lastU (fun x => pyB cs x) t = lastU (fun x => pyB cs x) 900 := by
  obtain ⟨l1, l5⟩ := vc_len h
  have a1 := vc_at h (i := 0) (by omega)
  have a2 := vc_at h (i := cs.length - 1) (by omega)
  have hle : t ≤ 900 := by
    have := Int.mul_le_mul a1.2 a2.2 (by omega) (by omega)
    omega
  have e := lastU_ext (p := fun x => pyB cs x) (t := t) (900 - t) (fun x hx _ => by
    have hc := cover_one (vc_pos h) (vc_head h) (vc_last h) hg (x := x) (by omega) (by
      rw [Int.sub_mul, Int.one_mul]
      omega)
    show pyB cs x = true
    unfold pyB
    exact decide_eq_true hc)
  rw [show t + (900 - t) = 900 by omega] at e
  exact e.symm

theorem ret_last {a a' b b' : Int} {r r' : Bool} (h1 : a = a') (h2 : b = b') (h3 : r = r') : Ending.returned (.tuple #[.int .i64 a, .int .i64 b, .bool r]) = .returned (.tuple #[.int .i64 a', .int .i64 b', .bool r']) := by rw [h1, h2, h3]

theorem gcdL_le {cs : List Int} (h : vCoins cs = true) (i : Nat) : 0 ≤ gcdL (cs.take i) ∧ gcdL (cs.take i) ≤ 30 := by
  refine ⟨gcdL_nonneg _, ?_⟩
  by_cases hi : cs.take i = []
  · rw [hi]; simp [gcdL]
  · obtain ⟨c, hc⟩ : ∃ c, c ∈ cs.take i := List.exists_mem_of_ne_nil _ hi
    have h1 := gcdL_dvd ((vc_pos h).take i) c hc
    have h2 := vc_pos h c (take_mem hc)
    have h3 := vc_30 h c (take_mem hc)
    have := Int.le_of_dvd (by omega) h1
    omega

set_option maxRecDepth 100000 in
set_option maxHeartbeats 3200000 in
theorem LastUnpaid_spec (v : Value) (cs : List Int) (w : World) (hv : IsInts w v cs) (hl : cs.length ≤ 9223372036854775807) :
    Calls Try.prog 34 #[v] w fun e w' => e = .returned (.tuple #[.int .i64 (lastP cs).1, .int .i64 (lastP cs).2, .bool (cLast cs)]) ∧ Below w.heap.size w w' := by
  have HVC := Lib.hid (fun r => validCoins_sat v cs r w hv hl)
  have HNO : Hid (cLast cs = false → (lastP cs).1 = 0 ∧ (lastP cs).2 = 0) := fun h => by unfold lastP; rw [h]; exact ⟨rfl, rfl⟩
  cases h1 : vCoins cs
  · have E : Hid (cLast cs = false) := by show _ = _; unfold cLast; rw [h1]; rfl
    go_enter Try.func34, Try.ntmps34
    go_wp2_with (go_at_call 45; refine (HVC.out _ h1).mono ?_; rintro e w' ⟨rfl, hd⟩)
    go_ret3
    exact ⟨ret_last (HNO.out E.out).1.symm (HNO.out E.out).2.symm E.out.symm, hd.below⟩
  obtain ⟨l1, l5⟩ := vc_len h1
  obtain ⟨b, off, cap, rfl, hbw, hc⟩ := id (hv.at0 l1)
  have l0 : (0 : Int) < (cs.length : Int) := by omega
  have HC := Lib.hid hc
  have HV := Lib.hid hv
  have HAT := Lib.hid (fun (i : Nat) => vc_at h1 (i := i))
  have HGL := Lib.hid (fun (i : Nat) => gcdL_le h1 i)
  have HGS : Hid (∀ i, i < cs.length → gcdL (cs.take (i + 1)) = ((Nat.gcd (cs.getD i 0).toNat (gcdL (cs.take i)).toNat : Nat) : Int)) := fun i hi => by
    rw [take_snoc cs hi, gcdL_snoc, Nat.gcd_comm]
  have HG0 : Hid (gcdL (cs.take 0) = 0) := by show _ = _; simp [gcdL]
  have HGP : Hid (1 ≤ gcdL cs) := gcdL_pos (vc_pos h1) (by intro h; rw [h] at l1; simp at l1)
  have HCL : Hid (gcdL cs ≠ 1 → cLast cs = false) := fun h => by unfold cLast; rw [decide_eq_false h, Bool.and_false]
  have HCY : Hid (gcdL cs = 1 → cLast cs = true ∧ ∀ t : Nat, (t : Int) = cs.getD 0 0 * cs.getD (cs.length - 1) 0 → lastP cs = lastU (fun x => pyB cs x) t) := fun h => by
    have e : cLast cs = true := by unfold cLast; rw [h1, decide_eq_true h]; rfl
    refine ⟨e, fun t ht => ?_⟩
    unfold lastP
    rw [if_pos e, last_top h1 h ht]
  have HFS := Lib.hid (fun (n : Nat) (w : World) (hv : IsInts w (.slice (some ⟨b, off, none⟩) cs.length cap) cs) (hn : n ≤ 1020) => fewest_spec _ cs n w hv h1 hn)
  have H1 := Lib.hid h1
  clear hc h1 hv
  go_enter Try.func34, Try.ntmps34
  go_wp2_with (go_at_call 45; refine (HVC.out _ H1.out).mono ?_; rintro e w1 ⟨rfl, hd⟩)
  go_loopw [5, 6] (fun gv iv wr => ∃ i : Nat, i ≤ cs.length ∧ iv = .int .i64 i ∧ gv = .int .i64 (gcdL (cs.take i)) ∧ Below w.heap.size w wr) (fun _ iv _ => cs.length - (intOf iv).toNat)
  case atStart => exact ⟨0, Nat.zero_le _, rfl, by rw [HG0.out], hd.below⟩
  case round =>
    clear hd HVC
    obtain ⟨i, hi, rfl, rfl, hbl⟩ := hrel
    rename World => wr
    by_cases hlt : i < cs.length
    · have i1 : (i : Int) < (cs.length : Int) := by omega
      have ci := (hbl.cell (p := ⟨b, off + i, none⟩) hbw).trans (HC.out i hlt)
      have hat := HAT.out i hlt
      have hgl := HGL.out i
      have HGN := Lib.hid (HGS.out i hlt)
      have hgc := gcd_spec (cs.getD i 0).toNat (gcdL (cs.take i)).toNat wr (by omega) (by omega)
      rw [Int.toNat_of_nonneg (show 0 ≤ cs.getD i 0 by omega), Int.toNat_of_nonneg hgl.1, ← HGN.out] at hgc
      have HGC := Lib.hid hgc
      clear hgc HGN
      generalize cs.getD i 0 = c at *
      generalize gcdL (cs.take i) = g at *
      go_wp2_with (go_at_call 55; refine HGC.out.mono ?_; rintro e w' ⟨rfl, rfl⟩)
      go_roundw
      case rel => exact ⟨i + 1, by omega, by go_num, rfl, hbl⟩
      case measure => simp [intOf]; omega
    · have hie : i = cs.length := by omega
      subst hie
      rw [List.take_length]
      have hgp := HGP.out
      by_cases hg : gcdL cs = 1
      · rw [hg]
        obtain ⟨E1, E2⟩ := HCY.out hg
        have HE2 := Lib.hid E2
        have HE1 := Lib.hid E1
        have hat0 := HAT.out 0 (by omega)
        have hatl := HAT.out (cs.length - 1) (by omega)
        have c0 := (hbl.cell (p := ⟨b, off + 0, none⟩) hbw).trans (HC.out 0 (by omega))
        have cl := (hbl.cell (p := ⟨b, off + (cs.length - 1), none⟩) hbw).trans (HC.out (cs.length - 1) (by omega))
        rw [Nat.add_zero] at c0
        have n2 : (cs.length : Int) - 1 < (cs.length : Int) := by omega
        have n1 : (1 : Int) ≤ (cs.length : Int) := by omega
        have n3 : ((cs.length : Int) - 1).toNat = cs.length - 1 := by omega
        clear E1 E2 HCY HCL hgp HGP hg
        generalize cs.getD 0 0 = x at *
        generalize cs.getD (cs.length - 1) 0 = y at *
        have hxy0 := Int.mul_nonneg (show 0 ≤ x by omega) (show 0 ≤ y by omega)
        have hxy1 := Int.mul_le_mul hat0.2 hatl.2 (show 0 ≤ y by omega) (by omega)
        obtain ⟨T, hT⟩ : ∃ T : Nat, x * y = T := ⟨(x * y).toNat, by omega⟩
        have HT := Lib.hid hT
        go_wp2
        go_quiet (fail)
        go_wp2_with fail
        have hbd := below_drewNC hbl hbl.size nq
        have hE := HE2.out T HT.out.symm
        have hF := HFS.out T (wr.drewN nq) (HV.out.below hbd) (by omega)
        generalize wr.drewN nq = wq at *
        have HEE := Lib.hid hE
        have HF := Lib.hid hF
        have hT9 : T ≤ 900 := by omega
        clear hE hF c0 cl hbl HE2 HFS HV HC HAT HGL HGS HG0 HNO HT hT hat0 hatl hxy0 hxy1
        refine HF.out.mono ?_
        rintro e w2 ⟨v2, rfl, hown, hbl⟩
        have hb2 : Below w.heap.size w w2 := hbd.trans (hbl.mono hbd.size)
        obtain ⟨gl, cl, rfl, hg0, hg1⟩ := own_sl hown (tabL_len _ _) (by omega)
        have hown2 := hown.base hbd.size
        have HPY : Hid (∀ t : Nat, pyB cs (t : Int) = decide (0 ≤ fwV cs (t : Int))) := fun t => rfl
        have HLB := Lib.hid (lastU_facts (fun x : Nat => pyB cs (x : Int)))
        clear hbl hown hbd HF
        go_wp2
        go_loopw [9, 10, 11] (fun nv mv xv wr => ∃ t : Nat, t ≤ T ∧ xv = .int .i64 ((t : Int) + 1) ∧ nv = .int .i64 (lastU (fun x : Nat => pyB cs (x : Int)) t).2 ∧ mv = .int .i64 (lastU (fun x : Nat => pyB cs (x : Int)) t).1 ∧ Own wr w.heap.size (sl gl (T + 1) cl) (tabL (fwV cs) T) ∧ Below w.heap.size w wr) (fun _ _ xv _ => T + 2 - (intOf xv).toNat)
        case atStart => exact ⟨0, Nat.zero_le _, rfl, rfl, rfl, hown2, hb2⟩
        case round =>
          clear hown2 hb2
          obtain ⟨t, ht, rfl, rfl, rfl, hown, hbl⟩ := hrel
          rename World => wt
          have hlb := HLB.out t
          by_cases hlt : t < T
          · have t1 : (t : Int) + 1 ≤ (T : Int) := by omega
            have t2 : (t : Int) + 1 < (T : Int) + 1 := by omega
            have t3 : (0 : Int) ≤ (t : Int) + 1 := by omega
            have t4 : ((t : Int) + 1).toNat = t + 1 := by omega
            have c1 := hown.cell (tabL_len _ _) (t + 1) (by omega)
            rw [tabL_at _ (by omega)] at c1
            have hpy := HPY.out (t + 1)
            have HST : Hid (∀ q, pyB cs ((t + 1 : Nat) : Int) = q → lastU (fun x : Nat => pyB cs (x : Int)) (t + 1) = if q = true then lastU (fun x : Nat => pyB cs (x : Int)) t else (((t + 1 : Nat) : Int), (lastU (fun x : Nat => pyB cs (x : Int)) t).2 + 1)) := fun q h => by rw [← h]; rfl
            have hst := HST.out _ hpy
            clear hpy HST
            have HSS := Lib.hid hst
            clear hst
            obtain ⟨g1, g2, g3, g4, _, _⟩ := hlb
            generalize lastU (fun x : Nat => pyB cs (x : Int)) t = L at *
            generalize fwV cs ((t + 1 : Nat) : Int) = u at *
            by_cases hu : u < 0
            · have HN : Hid (lastU (fun x : Nat => pyB cs (x : Int)) (t + 1) = (((t + 1 : Nat) : Int), L.2 + 1)) := by
                show _ = _
                rw [HSS.out, decide_eq_false (show ¬ 0 ≤ u by omega)]; rfl
              go_wp2
              go_roundw
              case rel => exact ⟨t + 1, by omega, by go_num, by rw [HN.out], by rw [HN.out]; go_num, hown, hbl⟩
              case measure => simp [intOf]; omega
            · have HN : Hid (lastU (fun x : Nat => pyB cs (x : Int)) (t + 1) = L) := by
                show _ = _
                rw [HSS.out, decide_eq_true (show 0 ≤ u by omega)]; rfl
              go_wp2
              go_roundw
              case rel => exact ⟨t + 1, by omega, by go_num, by rw [HN.out], by rw [HN.out], hown, hbl⟩
              case measure => simp [intOf]; omega
          · have hte : t = T := by omega
            subst hte
            have t1 : ¬ (t : Int) + 1 ≤ (t : Int) := by omega
            go_wp2
            go_ret3
            exact ⟨ret_last (by rw [HEE.out]) (by rw [HEE.out]) HE1.out.symm, hbl⟩
      · have g2 : (1 : Int) < gcdL cs := by omega
        have E := Lib.hid (HCL.out hg)
        clear HCL HCY hg hgp HGP
        generalize gcdL cs = g at *
        go_wp2
        go_ret3
        exact ⟨ret_last (HNO.out E.out).1.symm (HNO.out E.out).2.symm E.out.symm, hbl⟩

end Go.Proofs.Ytbkndncdhombeaa
