/- How many there are in a set, in the program: the library's count of bits, for numbers below 256. -/
import Derived.Test.YtiffjeclpgcabaaVouM
namespace Go.Proofs.Ytiffjeclpgcabaa
open Go.RowKit

def on1 (x : Int) : Int := IntKind.u64.wrap (bits .and .u64 (x / 2) 6148914691236517205 + bits .and .u64 x 6148914691236517205)
def on2 (x : Int) : Int := IntKind.u64.wrap (bits .and .u64 (x / 4) 3689348814741910323 + bits .and .u64 x 3689348814741910323)
def on3 (x : Int) : Int := bits .and .u64 (IntKind.u64.wrap (x / 16 + x)) 1085102592571150095
def on4 (x : Int) : Int := IntKind.u64.wrap (x + x / 256)
def on5 (x : Int) : Int := IntKind.u64.wrap (x + x / 65536)
def on6 (x : Int) : Int := IntKind.u64.wrap (x + x / 4294967296)
def onR (x : Int) : Int := bits .and .i64 (wrap64 x) 127
def onAll (s : Nat) : Int := onR (on6 (on5 (on4 (on3 (on2 (on1 (s : Int)))))))

theorem on_fin : ∀ s : Fin 256, onAll s.val = (cntV s.val 8 : Int) := by decide +kernel

set_option maxRecDepth 100000 in
set_option maxHeartbeats 1600000 in
theorem ones64_spec (s : Nat) (w : World) (hs : s < 256) :
    Calls Try.prog 89 #[.int .u64 s] w fun e w' => e = .returned (.int .i64 (cntV s 8 : Int)) ∧ w = w' := by
  have H := Lib.hid (on_fin ⟨s, hs⟩)
  go_enter Try.func89, Try.ntmps89
  go_wp2
  go_ret
  exact ⟨ret_int H.out, rfl⟩

set_option maxHeartbeats 400000 in
theorem ones_spec (s : Nat) (w : World) (hs : s < 256) :
    Calls Try.prog 87 #[.int .u64 s] w fun e w' => e = .returned (.int .i64 (cntV s 8 : Int)) ∧ w = w' := by
  have H := Lib.hid (ones64_spec s w hs)
  go_enter Try.func87, Try.ntmps87
  go_wp2_with (go_at_call 89; refine H.out.mono ?_; rintro e w' ⟨rfl, rfl⟩)
  go_ret
  exact ⟨rfl, rfl⟩

set_option maxHeartbeats 400000 in
theorem sizeOf_impl (s : Nat) (w : World) (hs : s < 256) :
    Calls Try.prog 77 #[.int .i64 s] w fun e w' => e = .returned (.int .i64 (cntV s 8 : Int)) ∧ w = w' := by
  have H := Lib.hid (ones_spec s w hs)
  go_enter Try.func77, Try.ntmps77
  go_wp2_with (go_at_call 87; refine H.out.mono ?_; rintro e w' ⟨rfl, rfl⟩)
  go_ret
  exact ⟨rfl, rfl⟩

end Go.Proofs.Ytiffjeclpgcabaa
