/- The fewest coins, in the model. -/
import Derived.Test.YtbkndncdhombeaaCoinS
namespace Go.Proofs.Ytbkndncdhombeaa
open Go.RowKit

theorem best_bounds {cs P : List Int} (hp : Pos cs) (hP : ∀ c ∈ P, c ∈ cs) {x b : Int} (hx : 0 ≤ x) (h : Best cs P x b) : -1 ≤ b ∧ b ≤ x := by
  rcases h with ⟨h1, _⟩ | ⟨h1, ⟨d, hd, h2, h3⟩, _⟩
  · omega
  · have := fw_bound hp h2
    have := hp d (hP d hd)
    omega

/-- The coins from one on that is too great are too great. -/
theorem best_cut {cs : List Int} (h : vCoins cs = true) {i : Nat} (hi : i < cs.length) {x b : Int} (hx : 1 ≤ x) (hlt : x < cs.getD i 0) (hb : Best cs (cs.take i) x b) : fwV cs x = b := by
  refine best_all (vc_pos h) hx ?_
  have := best_rest (Q := cs.drop i) (vc_pos h) hb (fun c hc => by
    obtain ⟨j, hj, rfl⟩ := List.getElem_of_mem hc
    rw [List.length_drop] at hj
    rw [List.getElem_drop]
    have e : cs[i + j] = cs.getD (i + j) 0 := by simp [List.getD, show i + j < cs.length by omega]
    rw [e]
    by_cases h0 : j = 0
    · subst h0; exact hlt
    · have := vc_lt h (i + j) i (by omega) (by omega)
      omega)
  rwa [List.take_append_drop] at this

theorem fw_start {cs : List Int} (hp : Pos cs) (n : Nat) : List.replicate (n + 1) (0 : Int) = stL (fun _ => 0) (fwV cs) 1 n := by
  apply List.ext_getElem
  · simp [stL]
  · intro i h1 h2
    simp only [stL, List.getElem_map, List.getElem_range, List.getElem_replicate]
    by_cases h : i < 1
    · have : i = 0 := by omega
      subst this
      rw [if_pos h]
      exact (fw_zero hp).symm
    · rw [if_neg h]

theorem set_setI (xs : List Int) (i : Nat) (u v : Int) : (xs.set i u).set i v = xs.set i v := List.set_set u ..

set_option maxRecDepth 100000 in
set_option maxHeartbeats 3200000 in
theorem fewest_spec (v : Value) (cs : List Int) (n : Nat) (w : World) (hv : IsInts w v cs) (hcs : vCoins cs = true) (hn : n ≤ 1020) :
    Calls Try.prog 51 #[v, .int .i64 (n : Int)] w fun e w' => ∃ v', e = .returned v' ∧ Own w' w.heap.size v' (tabL (fwV cs) n) ∧ Below w.heap.size w w' := by
  obtain ⟨l1, l5⟩ := vc_len hcs
  obtain ⟨b, off, cap, rfl, hbw, hc⟩ := hv.at0 l1
  have HC := Lib.hid hc
  have HAT := Lib.hid (fun (i : Nat) => vc_at hcs (i := i))
  have hp := vc_pos hcs
  have HFB : Hid (∀ x : Nat, -1 ≤ fwV cs (x : Int) ∧ fwV cs (x : Int) ≤ x) := fun x => by
    have := fw_ge hp (x : Int)
    by_cases h : 0 ≤ fwV cs (x : Int)
    · exact ⟨this, fw_bound hp h⟩
    · omega
  have HBB : Hid (∀ (i x : Nat) (r : Int), Best cs (cs.take i) x r → -1 ≤ r ∧ r ≤ x) := fun i x r h => best_bounds hp (fun c hc => take_mem hc) (by omega) h
  have HBT : Hid (∀ (i x : Nat) (r : Int), i < cs.length → Best cs (cs.take i) x r → 0 ≤ fwV cs ((x : Int) - cs.getD i 0) → (r < 0 ∨ fwV cs ((x : Int) - cs.getD i 0) + 1 < r) → Best cs (cs.take (i + 1)) x (fwV cs ((x : Int) - cs.getD i 0) + 1)) := fun i x r hi h h1 h2 => by
    rw [take_snoc cs hi]; exact best_take h h1 h2
  have HBK : Hid (∀ (i x : Nat) (r : Int), i < cs.length → Best cs (cs.take i) x r → ¬ (0 ≤ fwV cs ((x : Int) - cs.getD i 0) ∧ (r < 0 ∨ fwV cs ((x : Int) - cs.getD i 0) + 1 < r)) → Best cs (cs.take (i + 1)) x r) := fun i x r hi h h1 => by
    rw [take_snoc cs hi]; exact best_keep h h1
  have HBC : Hid (∀ (i x : Nat) (r : Int), i < cs.length → 1 ≤ x → (x : Int) < cs.getD i 0 → Best cs (cs.take i) x r → fwV cs (x : Int) = r) := fun i x r hi h1 h2 h3 => best_cut hcs hi (by omega) h2 h3
  have HBA : Hid (∀ (x : Nat) (r : Int), 1 ≤ x → Best cs (cs.take cs.length) x r → fwV cs (x : Int) = r) := fun x r h1 h2 => by
    rw [List.take_length] at h2; exact best_all hp (by omega) h2
  have HB0 : Hid (∀ x : Nat, Best cs (cs.take 0) x (-1)) := fun x => by rw [List.take_zero]; exact best_nil _ _
  have hst := fw_start hp n
  obtain ⟨i0, hi, hz0, hz1, hz2⟩ := info_parts infoInt
  clear hc hp
  go_enter Try.func51, Try.ntmps51
  go_wp2_with (at_make; refine wpList_make_full _ rfl _ _ 23 rfl w.heap.size 3 i0 (.int .i64 0) 1 Try.underlying23 hi hz0 hz1 _ _ _ _ (n + 1) rfl rfl rfl rfl ?b2 ?b3 (Nat.le_refl _) ?_)
  case b2 => rw [hz2]; omega
  case b3 => unfold maxLen; omega
  intro w0 hown0 hgrow0
  have hb0 : Below w.heap.size w w0 := below_grown hgrow0 (Nat.le_refl _) (fun k h => by cases h)
  have hw0 : Own w0 w.heap.size (sl w.heap.size (n + 1) (n + 1)) (stL (fun _ => 0) (fwV cs) 1 n) := by rw [← hst]; exact own_made hown0
  clear hown0 hgrow0 hst
  go_wp2
  go_loopw [6, 7, 8] (fun xv _ _ wr => ∃ x : Nat, 1 ≤ x ∧ x ≤ n + 1 ∧ xv = .int .i64 x ∧ Own wr w.heap.size (sl w.heap.size (n + 1) (n + 1)) (stL (fun _ => 0) (fwV cs) x n) ∧ Below w.heap.size w wr) (fun xv _ _ _ => n + 1 - (intOf xv).toNat)
  case atStart => exact ⟨1, Nat.le_refl _, by omega, rfl, hw0, hb0⟩
  case round =>
    clear hw0 hb0
    obtain ⟨x, hx1, hxn, rfl, hown, hbl⟩ := hrel
    rename World => wr
    by_cases hx : x ≤ n
    · have x1 : (x : Int) ≤ (n : Int) := by omega
      have x2 : (x : Int) < (n : Int) + 1 := by omega
      have c1 := hown.cell (by simp [stL]) x (by omega)
      have f1 := hown.frozen (by simp [stL]) x
      have hs := (hown.set (by simp [stL]) x (-1)).1
      have bw : Below w.heap.size w (wr.setCell ⟨w.heap.size, x, none⟩ (.int .i64 (-1))) := hbl.setCell (by exact Nat.le_refl _) _
      have HS := Lib.hid hs
      have HST : Hid (∀ r, fwV cs (x : Int) = r → (stL (fun _ => 0) (fwV cs) x n).set x r = stL (fun _ => 0) (fwV cs) (x + 1) n) := fun r h => by rw [← h]; exact stL_set _ _ hx
      have HGT : Hid (∀ (j : Nat) (r : Int), j < x → ((stL (fun _ => 0) (fwV cs) x n).set x r).getD j 0 = fwV cs (j : Int)) := fun j r h => by
        rw [getD_setI _ _ _ _ (by simp [stL]; omega), if_neg (by omega), stL_at _ _ _ (by omega), if_pos h]
      have HGX : Hid (∀ r : Int, ((stL (fun _ => 0) (fwV cs) x n).set x r).getD x 0 = r) := fun r => by
        rw [getD_setI _ _ _ _ (by simp [stL]; omega), if_pos rfl]
      have HLN : Hid (∀ r : Int, ((stL (fun _ => 0) (fwV cs) x n).set x r).length = n + 1) := fun r => by simp [stL]
      have HSS : Hid (∀ r s : Int, ((stL (fun _ => 0) (fwV cs) x n).set x r).set x s = (stL (fun _ => 0) (fwV cs) x n).set x s) := fun r s => set_setI _ _ _ _
      generalize stL (fun _ => 0) (fwV cs) x n = L at *
      clear hs hown
      go_wp2
      go_loopw [7, 8] (fun iv _ wx => ∃ (i : Nat) (r : Int), i ≤ cs.length ∧ iv = .int .i64 i ∧ Best cs (cs.take i) x r ∧ Own wx w.heap.size (sl w.heap.size (n + 1) (n + 1)) (L.set x r) ∧ Below w.heap.size w wx) (fun iv _ _ => cs.length - (intOf iv).toNat)
      case atStart => exact ⟨0, -1, Nat.zero_le _, rfl, HB0.out x, HS.out, bw⟩
      case round =>
        clear HS bw hbl c1 f1
        obtain ⟨i, r, hi, rfl, hbest, hown, hbl⟩ := hrel
        rename World => wx
        by_cases hlt : i < cs.length
        · have i1 : (i : Int) < (cs.length : Int) := by omega
          have ci := (hbl.cell (p := ⟨b, off + i, none⟩) hbw).trans (HC.out i hlt)
          have hat := HAT.out i hlt
          obtain ⟨c, hcn⟩ : ∃ c : Nat, cs.getD i 0 = c := ⟨(cs.getD i 0).toNat, by omega⟩
          have hbt := HBT.out i x r hlt hbest
          have hbk := HBK.out i x r hlt hbest
          have hbc := HBC.out i x r hlt hx1
          rw [hcn] at ci hat hbt hbk hbc
          clear hcn
          by_cases hle : c ≤ x
          · have x3 : (c : Int) ≤ (x : Int) := by omega
            have x4 : (0 : Int) ≤ (x : Int) - (c : Int) := by omega
            have x5 : (x : Int) - (c : Int) < (n : Int) + 1 := by omega
            have x6 : ((x : Int) - (c : Int)).toNat = x - c := by omega
            have c2 := hown.cell (HLN.out r) (x - c) (by omega)
            rw [HGT.out (x - c) r (by omega)] at c2
            have c3 := hown.cell (HLN.out r) x (by omega)
            rw [HGX.out r] at c3
            have f3 := hown.frozen (HLN.out r) x
            have hfb := HFB.out (x - c)
            have hrb := HBB.out i x r hbest
            rw [show ((x : Int) - (c : Int)) = ((x - c : Nat) : Int) by omega] at hbt hbk
            have hs := (hown.set (HLN.out r) x (fwV cs ((x - c : Nat) : Int) + 1)).1
            rw [HSS.out] at hs
            generalize fwV cs ((x - c : Nat) : Int) = m at *
            have bw : Below w.heap.size w (wx.setCell ⟨w.heap.size, x, none⟩ (.int .i64 (m + 1))) := hbl.setCell (by exact Nat.le_refl _) _
            have HO := Lib.hid hown
            have HS2 := Lib.hid hs
            have HBT2 := Lib.hid hbt
            have HBK2 := Lib.hid hbk
            clear hown hs hbt hbk hbc hbest
            by_cases h0 : 0 ≤ m
            · by_cases h1 : r < 0
              · have HN := Lib.hid (HBT2.out h0 (.inl h1))
                go_wp2
                go_roundw
                case rel => exact ⟨i + 1, m + 1, by omega, by go_num, HN.out, HS2.out, bw⟩
                case measure => simp [intOf]; omega
              · by_cases h2 : m + 1 < r
                · have HN := Lib.hid (HBT2.out h0 (.inr h2))
                  go_wp2
                  go_roundw
                  case rel => exact ⟨i + 1, m + 1, by omega, by go_num, HN.out, HS2.out, bw⟩
                  case measure => simp [intOf]; omega
                · have HN := Lib.hid (HBK2.out (fun h => h.2.elim h1 h2))
                  go_wp2
                  go_roundw
                  case rel => exact ⟨i + 1, r, by omega, by go_num, HN.out, HO.out, hbl⟩
                  case measure => simp [intOf]; omega
            · have HN := Lib.hid (HBK2.out (fun h => h0 h.1))
              go_wp2
              go_roundw
              case rel => exact ⟨i + 1, r, by omega, by go_num, HN.out, HO.out, hbl⟩
              case measure => simp [intOf]; omega
          · have x3 : ¬ (c : Int) ≤ (x : Int) := by omega
            rw [HST.out r (hbc (by omega) hbest)] at hown
            clear hbt hbk hbc hbest
            go_wp2
            go_roundw
            case rel => exact ⟨x + 1, by omega, by omega, by go_num, hown, hbl⟩
            case measure => simp [intOf]; omega
        · have hie : i = cs.length := by omega
          subst hie
          rw [HST.out r (HBA.out x r hx1 hbest)] at hown
          clear hbest
          go_wp2
          go_roundw
          case rel => exact ⟨x + 1, by omega, by omega, by go_num, hown, hbl⟩
          case measure => simp [intOf]; omega
    · have x1 : ¬ (x : Int) ≤ (n : Int) := by omega
      rw [stL_end _ _ (by omega)] at hown
      go_wp2
      go_ret
      exact ⟨_, rfl, hown, hbl⟩

end Go.Proofs.Ytbkndncdhombeaa
