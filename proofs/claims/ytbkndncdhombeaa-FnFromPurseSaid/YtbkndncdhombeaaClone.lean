/- slices.Clone at ints. -/
import Derived.Test.YtbkndncdhombeaaSpread
import Derived.Test.YtbkndncdhombeaaWorld
import Derived.Lib.LazyBuf
namespace Go.Proofs.Ytbkndncdhombeaa
open Go.RowKit

set_option maxHeartbeats 1600000 in
theorem Clone_impl (v : Value) (xs : List Int) (w : World) (hv : IsInts w v xs) (h0 : 1 ≤ xs.length) (hl : xs.length ≤ 1048576) :
    Calls Try.prog 64 #[v] w fun e w' => ∃ g cap, e = .returned (.slice (some ⟨g, 0, none⟩) xs.length cap) ∧ w.heap.size ≤ g ∧ Own w' w.heap.size (sl g xs.length cap) xs ∧ Below w.heap.size w w' := by
  have HV := Lib.hid hv
  obtain ⟨a, cap, rfl, hc⟩ := hv
  obtain ⟨b, off, rfl, _⟩ := hc 0 (by omega)
  have q28 : ∀ (w : World) (a : Option Addr) (n c : Nat), (binOp .eql 23 (.slice a n c) (.slice none 0 0)).run Try.prog w = .ok (.bool a.isNone) w := fun w a n c => run_eql_slice_nil w _ _ a n c Try.underlying23
  clear hc
  go_enter Try.func64, Try.ntmps64
  have oe := own_empty w w.heap.size (Nat.le_refl _)
  have hba : Below w.heap.size w (w.alloc (.cells #[] 3)) := (Below.refl _ _).alloc (Nat.le_refl _) _
  have r1 := HV.out.below hba
  have hsz : w.heap.size ≤ (w.alloc (.cells #[] 3)).heap.size := hba.size
  go_wp2_with (at_builtin; refine wpList_spread oe r1 (by omega) (by simp; omega) hsz (h := ?_))
  intro rv w1 o1 g1 m1
  have hb1 : Below w.heap.size w w1 := hba.trans (below_grown g1 hsz (fun k hk => by simp [Value.ownBlock] at hk; omega))
  rcases id o1.2 with ⟨_, hz⟩ | ⟨g, capg, curg, rfl, _⟩
  · omega
  have hgl := o1.lt g rfl
  have o2 : Own w1 w.heap.size (sl g xs.length capg) xs := by simpa using o1
  clear oe r1 g1 m1 o1 hba hsz
  go_wp2
  go_ret
  exact ⟨g, capg, by simp, hgl.1, o2, hb1⟩

end Go.Proofs.Ytbkndncdhombeaa
