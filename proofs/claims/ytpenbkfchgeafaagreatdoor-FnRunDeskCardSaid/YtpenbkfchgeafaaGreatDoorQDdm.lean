/- Drawn texts. -/
import Derived.Test.YtpenbkfchgeafaaGreatDoorQRestI
import Derived.Test.YtpenbkfchgeafaaGreatDoorQPush
import Derived.Deep.RegionWith
namespace Go.Proofs.YtpenbkfchgeafaaGreatDoor
open Go.RowKit

theorem own_litS (w : World) (B : Nat) (ps : List ByteArray) (cs : Array Value) (hcs : cs.toList = ps.map Value.string) (hB : B ≤ w.heap.size) (hl : ps.length ≤ 1048576) : OwnStr (w.alloc (.cells cs 9)) B (sl w.heap.size ps.length ps.length) ps := by
  have h := World.ownsRow_lit (e := 9) (size := 1) w cs ps.length hB (by unfold maxLen; omega) (by rw [← Array.length_toList, hcs]; simp)
  rw [hcs] at h
  exact h

set_option maxHeartbeats 800000 in
/-- One of the texts of a list that lies in no reader's block. -/
theorem of_has (v : Value) (ps : List ByteArray) (B R : Nat) (a : Option Addr) (q : Nat) (w : World) (h : HasReader w B R a q) (hp : q ≤ 1000000) (hv : IsStrs w v ps) (hne : v.ownBlock ≠ some R) (hl0 : 0 < ps.length) (hl : ps.length ≤ 1000000) :
    Calls Tryz.prog 14 #[.pointer (some ⟨R, 0, none⟩), v] w fun e w' => ∃ y, e = .returned (.string y) ∧ y ∈ ps ∧ HasReader w' B R a (q + 1) ∧ w.grownBy w' (some R) := by
  obtain ⟨a2, cap2, rfl, hc⟩ := hv
  have hpk := pick_has (ps.length : Int) B R a q w h hp (by omega)
  have HP := Lib.hid hpk
  clear hpk
  go_enter Tryz.func14, Tryz.ntmps14
  go_wp2_with fail
  refine HP.out.mono ?_
  rintro e w1 ⟨y, rfl, ⟨hy0, hy1, _⟩, hrd, hg⟩
  have hyl := hy1 (by omega)
  obtain ⟨j, rfl⟩ : ∃ j : Nat, y = j := ⟨y.toNat, by omega⟩
  have hj : j < ps.length := by omega
  obtain ⟨b, off, rfl, hcell⟩ := hc j hj
  have hbR : some b ≠ some R := by simpa [Value.ownBlock] using hne
  have hcell1 : w1.cell? ⟨b, off + j, none⟩ = some (.string (ps.getD j ByteArray.empty)) := hg.cell hcell hbR
  have hmem : ps.getD j ByteArray.empty ∈ ps := by simp [List.getD, hj]
  have HM := Lib.hid hmem
  clear hc hmem hcell hy1
  go_wp2
  go_ret
  exact ⟨_, rfl, by simp, hrd, hg⟩

/-- One of a list that is built at the call. -/
theorem of_lit (ps : List ByteArray) (cs : Array Value) (n : Nat) (hcs : cs.toList = ps.map Value.string) (hn : n = ps.length) (g B R : Nat) (a : Option Addr) (q : Nat) (w : World) (h : HasReader w B R a q) (hq : q ≤ 1000000) (hl0 : 0 < ps.length) (hl : ps.length ≤ 1000000) (hgw : g = w.heap.size) :
    Calls Tryz.prog 14 #[.pointer (some ⟨R, 0, none⟩), .slice (some ⟨g, 0, none⟩) n n] (w.alloc (.cells cs 9)) fun e w' => ∃ y, e = .returned (.string y) ∧ y ∈ ps ∧ HasReader w' B R a (q + 1) ∧ w.grownBy w' (some R) := by
  subst hn hgw
  have hb : Below w.heap.size w (w.alloc (.cells cs 9)) := (Below.refl _ _).alloc (Nat.le_refl _) _
  refine (of_has _ ps B R a q _ (h.later hb) hq (own_litS w w.heap.size ps cs hcs (Nat.le_refl _) (by omega)).strs ?_ hl0 hl).mono ?_
  · have := h.lt.2
    simp [Value.ownBlock]
    omega
  · rintro e w' ⟨y, he, hy, hr', hg⟩
    exact ⟨y, he, hy, hr', (World.grownBy_alloc w _ _).trans hg⟩
end Go.Proofs.YtpenbkfchgeafaaGreatDoor
