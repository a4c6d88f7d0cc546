/- Coin after coin comes to a table of amounts. -/
import Derived.Test.YtbkndncdhombeaaAddC
namespace Go.Proofs.Ytbkndncdhombeaa
open Go.RowKit

set_option maxRecDepth 100000 in
set_option maxHeartbeats 3200000 in
theorem withoutCoins_int (n : Nat) (x y : Int) (w : World) (hn : n ≤ 1050) :
    Calls Try.prog 62 #[.int .i64 (n : Int), .int .i64 x, .int .i64 y] w fun e w' => ∃ g cap, e = .returned (sl g (n + 1) cap) ∧ w.heap.size ≤ g ∧ Own w' w.heap.size (sl g (n + 1) cap) (tabL (fun j => if j = 0 then x else y) n) ∧ Below w.heap.size w w' := by
  have b0 : Below w.heap.size w (w.alloc (.cells #[.int .i64 y] 3)) := (Below.refl _ _).alloc (Nat.le_refl _) _
  have hi : IsInts (w.alloc (.cells #[.int .i64 y] 3)) (.slice (some ⟨w.heap.size, 0, none⟩) 1 1) [y] := ⟨_, 1, rfl, fun j hj => ⟨w.heap.size, 0, rfl, by
    obtain rfl : j = 0 := by simpa using hj
    exact World.cell?_alloc_at _ _ _ _ rfl⟩⟩
  have HR := Repeat_int y _ (n + 1) _ hi (by omega) (by omega)
  rw [show ((n + 1 : Nat) : Int) = (n : Int) + 1 by omega] at HR
  have HR := Lib.hid HR
  go_enter Try.func62, Try.ntmps62
  go_wp2_with (go_at_call 72; refine HR.out.mono ?_; rintro e w2 ⟨v2, rfl, hown, hbl⟩)
  have hs0 := b0.size
  have hb2 : Below w.heap.size w w2 := b0.trans (hbl.mono hs0)
  obtain ⟨g, cap, hvv, hg0, hg1⟩ := own_sl hown (List.length_replicate ..) (by omega)
  obtain rfl : v2 = .slice (some ⟨g, 0, none⟩) (n + 1) cap := hvv
  have hown2 := hown.base hs0
  have c1 := hown2.cell (List.length_replicate ..) 0 (by omega)
  have f1 := hown2.frozen (List.length_replicate ..) 0
  have hs := (hown2.set (List.length_replicate ..) 0 x).1
  rw [first_set] at hs
  have hgw : w.heap.size ≤ g := by omega
  have hb3 : Below w.heap.size w (w2.setCell ⟨g, 0, none⟩ (.int .i64 x)) := hb2.setCell hgw _
  have HS := Lib.hid hs
  have n1 : (0 : Int) < (n : Int) + 1 := by omega
  clear hown hown2 hs HR
  have n4 : 0 < n + 1 := by omega
  have n5 : (0 : Int) ≤ (n : Int) := by omega
  go_wp2
  go_simp
  go_wp2
  go_ret
  exact ⟨g, cap, rfl, hgw, HS.out, hb3⟩

set_option maxRecDepth 100000 in
set_option maxHeartbeats 3200000 in
theorem byCoins_int (K : FuncId) (hK : ∀ (args : Array Value) (w : World), (callFunc K args).run Try.prog w = .ok (.enter K args) w) (F : List Int → Int → Int) (cs : List Int) (v : Value) (n ga cap : Nat) (w0 w : World)
    (hv : IsInts w0 v cs) (hcs : ∀ i, i < cs.length → 1 ≤ cs.getD i 0 ∧ cs.getD i 0 ≤ 30) (hlen : cs.length ≤ 5) (hbel : Below w0.heap.size w0 w) (hga : w0.heap.size ≤ ga) (hown : Own w w0.heap.size (sl ga (n + 1) cap) (tabL (F []) n)) (hn : n ≤ 1100)
    (hless : ∀ i, i < cs.length → ∀ j : Nat, (j : Int) < cs.getD i 0 → j ≤ n → F (cs.take (i + 1)) j = F (cs.take i) j)
    (hcall : ∀ i, i < cs.length → ∀ x : Nat, cs.getD i 0 ≤ x → x ≤ n → ∀ w, Calls Try.prog K #[.int .i64 (F (cs.take i) x), .int .i64 (F (cs.take (i + 1)) ((x : Int) - cs.getD i 0))] w fun e w' => e = .returned (.int .i64 (F (cs.take (i + 1)) x)) ∧ w = w') :
    Calls Try.prog 68 #[v, sl ga (n + 1) cap, .func (.func K) #[] #[]] w fun e w' => e = .returned (sl ga (n + 1) cap) ∧ Own w' w0.heap.size (sl ga (n + 1) cap) (tabL (F cs) n) ∧ Below w0.heap.size w0 w' := by
  have HADD : Hid (∀ i, i < cs.length → ∀ wx : World, Own wx w0.heap.size (sl ga (n + 1) cap) (tabL (F (cs.take i)) n) → Calls Try.prog 63 #[.int .i64 (cs.getD i 0), sl ga (n + 1) cap, sl ga (n + 1) cap, .func (.func K) #[] #[]] wx fun e w' => e = .returned (.tuple #[]) ∧ Own w' w0.heap.size (sl ga (n + 1) cap) (tabL (F (cs.take (i + 1))) n) ∧ wx.grownBy w' (some ga)) := fun i hi wx hx => by
    have hat := hcs i hi
    obtain ⟨c, hc⟩ : ∃ c : Nat, cs.getD i 0 = c := ⟨(cs.getD i 0).toNat, by omega⟩
    rw [hc]
    refine addCoin_same K hK _ _ c n ga cap w0.heap.size wx hx (by omega) (by omega) (fun j h1 h2 => hless i hi j (by omega) h2) hn (fun x h1 h2 w => ?_)
    have := hcall i hi x (by omega) h2 w
    rw [hc, show (x : Int) - (c : Int) = ((x - c : Nat) : Int) by omega] at this
    exact this
  have HF0 : Hid (F (cs.take 0) = F []) := by show _ = _; rw [List.take_zero]
  have hown0 : Own w w0.heap.size (sl ga (n + 1) cap) (tabL (F (cs.take 0)) n) := by rw [HF0.out]; exact hown
  obtain ⟨a, cp, rfl, hc⟩ := hv
  clear hless hcall hown HF0 hcs
  go_enter Try.func68, Try.ntmps68
  go_wp2
  go_loopw [8, 11, 19] (fun _ iv _ wr => ∃ i : Nat, i ≤ cs.length ∧ iv = .int .i64 i ∧ Own wr w0.heap.size (sl ga (n + 1) cap) (tabL (F (cs.take i)) n) ∧ Below w0.heap.size w0 wr) (fun _ iv _ _ => cs.length - (intOf iv).toNat)
  case atStart => exact ⟨0, Nat.zero_le _, rfl, hown0, hbel⟩
  case round =>
    clear hown0 hbel
    obtain ⟨i, hi, rfl, hown, hbl⟩ := hrel
    rename World => wr
    by_cases hlt : i < cs.length
    · have i1 : (i : Int) < (cs.length : Int) := by omega
      obtain ⟨b, off, rfl, c0⟩ := hc i hlt
      have hbb : b < w0.heap.size := World.block_lt_of_cell? w0 _ c0
      have ci : wr.cell? ⟨b, off + i, none⟩ = some (.int .i64 (cs.getD i 0)) := (hbl.cell (by exact hbb)).trans c0
      have HA := Lib.hid (HADD.out i hlt wr hown)
      clear hc HADD
      generalize cs.getD i 0 = c at *
      go_wp2_with (go_at_call 63; refine HA.out.mono ?_; rintro e w2 ⟨rfl, hown2, hgr⟩)
      have hbl2 : Below w0.heap.size w0 w2 := hbl.trans (below_grown hgr hbl.size (fun k hk => by cases hk; exact hga))
      clear hgr hown HA
      go_wp2
      go_roundw
      case rel => exact ⟨i + 1, by omega, by go_num, hown2, hbl2⟩
      case measure => simp [intOf]; omega
    · have hie : i = cs.length := by omega
      subst hie
      rw [List.take_length] at hown
      go_wp2
      go_ret
      exact ⟨rfl, hown, hbl⟩

end Go.Proofs.Ytbkndncdhombeaa
