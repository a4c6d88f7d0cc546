/- FnLastUnpaid: the region that draws its order. -/
import Derived.Test.YtkhmooemgjichaaKe
import Derived.BigQuiet
import Derived.IntWalk
namespace Go.Proofs.Ytkhmooemgjichaa
open Go Go.Conc Go.RowKit

def regL : Code → Code
  | .seq _ (.seq _ (.seq _ (.seq _ (.seq _ (.seq _ (.seq (.seq r _) _)))))) => r
  | c => c
set_option maxRecDepth 100000 in
set_option maxHeartbeats 1600000 in
theorem reg_two (a : Option Addr) (n cap : Nat) (b off cap2 k : Nat) (m u p q : Int) (W : World) (hk : k = 2) (hc0 : W.cell? ⟨b, off, none⟩ = some (.int .i64 p)) (hc1 : W.cell? ⟨b, off + 1, none⟩ = some (.int .i64 q)) (hp : 1 ≤ p ∧ p ≤ 30) (hq : 1 ≤ q ∧ q ≤ 30)
    (D : World → Prop) (hD : ∀ j, D (W.drewN j)) (hm : m = max (p * q - p - q) 0) (hu : u = (p - 1) * (q - 1) / 2) :
    (regL (Try.f5.body.getD .skip)).wp Try.prog (fun e a' w' => e = .normal ∧ (∃ x58 x59 x60 x61 x62 x63 x64 x65 x66 x67 x68 x69 x70 x71 x72 x73 x74 x75 x76 x77 x78 x79 x80 x81 x82 x83 x84 x85 x86 x87 x88 x89 x90 x91 x92 x93, a' = ⟨#[(.slice a n cap), undef, (.bool false), (.slice (some ⟨b, off, none⟩) k cap2), (.int .i64 m), (.int .i64 u), (.bool true), (.int .i64 m), (.int .i64 u), (.bool true), undef, (.slice a n cap), (.int .i64 (n : Int)), (.bool false), (.slice a n cap), (.slice (some ⟨b, off, none⟩) k cap2), (.tuple #[.int .i64 m, .int .i64 u, .bool (true)]), (.slice (some ⟨b, off, none⟩) k cap2), (.tuple #[.int .i64 m, .int .i64 u, .bool (true)]), (.int .i64 m), (.int .i64 u), (.bool true), (.tuple #[.int .i64 m, .int .i64 u, .bool (true)]), (.slice (some ⟨b, off, none⟩) k cap2), (.tuple #[.int .i64 m, .int .i64 u, .bool (true)]), (.int .i64 m), (.int .i64 u), (.bool true), (.int .i64 m), (.int .i64 m), (.bool false), (.bool false), (.int .i64 u), (.int .i64 u), (.bool false), (.bool false), (.bool false), (.bool true), (.bool true), (.bool false), (.bool false), (.bool false), (.bool true), (.bool false), (.bool false), undef, undef, undef, undef, undef, undef, undef, undef, undef, undef, undef, undef, undef, x58, x59, x60, x61, x62, x63, x64, x65, x66, x67, x68, x69, x70, x71, x72, x73, x74, x75, x76, x77, x78, x79, x80, x81, x82, x83, x84, x85, x86, x87, x88, x89, x90, x91, x92, x93, (.bool false), undef, undef, undef, undef, undef, undef, undef, undef, undef, undef, undef, undef, undef, undef, undef, undef, undef, undef, undef, undef, undef, undef, undef, undef, undef, undef, undef, undef, undef, undef, undef, undef, undef, undef, undef, undef, undef, undef, undef, undef], []⟩) ∧ D w') ⟨#[(.slice a n cap), undef, (.bool false), (.slice (some ⟨b, off, none⟩) k cap2), (.int .i64 m), (.int .i64 u), (.bool true), (.int .i64 m), (.int .i64 u), (.bool true), undef, (.slice a n cap), (.int .i64 (n : Int)), (.bool false), (.slice a n cap), (.slice (some ⟨b, off, none⟩) k cap2), (.tuple #[.int .i64 m, .int .i64 u, .bool (true)]), (.slice (some ⟨b, off, none⟩) k cap2), (.tuple #[.int .i64 m, .int .i64 u, .bool (true)]), (.int .i64 m), (.int .i64 u), (.bool true), (.tuple #[.int .i64 m, .int .i64 u, .bool (true)]), (.slice (some ⟨b, off, none⟩) k cap2), (.tuple #[.int .i64 m, .int .i64 u, .bool (true)]), (.int .i64 m), (.int .i64 u), (.bool true), (.int .i64 m), (.int .i64 m), (.bool false), (.bool false), (.int .i64 u), (.int .i64 u), (.bool false), (.bool false), (.bool false), (.bool true), (.bool true), (.bool false), (.bool false), (.bool false), (.bool true), (.bool false), (.bool false), undef, undef, undef, undef, undef, undef, undef, undef, undef, undef, undef, undef, undef, undef, undef, undef, undef, undef, undef, undef, undef, undef, undef, undef, undef, undef, undef, undef, undef, undef, undef, undef, undef, undef, undef, undef, undef, undef, undef, undef, undef, undef, undef, undef, undef, undef, undef, undef, undef, undef, undef, undef, undef, undef, undef, undef, undef, undef, undef, undef, undef, undef, undef, undef, undef, undef, undef, undef, undef, undef, undef, undef, undef, undef, undef, undef, undef, undef, undef, undef, undef, undef, undef, undef, undef, undef, undef, undef, undef, undef], []⟩ W := by
  subst hk
  have hm2 : m = if p * q - p - q < 0 then 0 else p * q - p - q := by split <;> omega
  clear hm
  have hpq0 := Int.mul_nonneg (show 0 ≤ p by omega) (show 0 ≤ q by omega)
  have hpq1 := Int.mul_le_mul hp.2 hq.2 (show 0 ≤ q by omega) (by omega)
  have hpr0 := Int.mul_nonneg (show 0 ≤ p - 1 by omega) (show 0 ≤ q - 1 by omega)
  have hpr1 := Int.mul_le_mul (show p - 1 ≤ 29 by omega) (show q - 1 ≤ 29 by omega) (show 0 ≤ q - 1 by omega) (by omega)
  simp only [Try.f5, Option.getD_some, regL]
  refine wp_region_quiet_lit (by kernel_rfl) (by kernel_rfl) ?_
  repeat (go_big_quiet_step (fail))
  refine wpQuiet_nil ?_
  intro _ hw'
  obtain ⟨nq, hw''⟩ := hw'
  subst hw''
  exact ⟨rfl, ⟨_, _, _, _, _, _, _, _, _, _, _, _, _, _, _, _, _, _, _, _, _, _, _, _, _, _, _, _, _, _, _, _, _, _, _, _, rfl⟩, hD nq⟩
set_option maxRecDepth 100000 in
set_option maxHeartbeats 1600000 in
theorem reg_other (a : Option Addr) (n cap : Nat) (b off cap2 k : Nat) (m u : Int) (W : World) (hk : ¬ (k : Int) = 2) (D : World → Prop) (hD : ∀ j, D (W.drewN j)) :
    (regL (Try.f5.body.getD .skip)).wp Try.prog (fun e a' w' => e = .normal ∧ (∃ x58 x59 x60 x61 x62 x63 x64 x65 x66 x67 x68 x69 x70 x71 x72 x73 x74 x75 x76 x77 x78 x79 x80 x81 x82 x83 x84 x85 x86 x87 x88 x89 x90 x91 x92 x93, a' = ⟨#[(.slice a n cap), undef, (.bool false), (.slice (some ⟨b, off, none⟩) k cap2), (.int .i64 m), (.int .i64 u), (.bool true), (.int .i64 m), (.int .i64 u), (.bool true), undef, (.slice a n cap), (.int .i64 (n : Int)), (.bool false), (.slice a n cap), (.slice (some ⟨b, off, none⟩) k cap2), (.tuple #[.int .i64 m, .int .i64 u, .bool (true)]), (.slice (some ⟨b, off, none⟩) k cap2), (.tuple #[.int .i64 m, .int .i64 u, .bool (true)]), (.int .i64 m), (.int .i64 u), (.bool true), (.tuple #[.int .i64 m, .int .i64 u, .bool (true)]), (.slice (some ⟨b, off, none⟩) k cap2), (.tuple #[.int .i64 m, .int .i64 u, .bool (true)]), (.int .i64 m), (.int .i64 u), (.bool true), (.int .i64 m), (.int .i64 m), (.bool false), (.bool false), (.int .i64 u), (.int .i64 u), (.bool false), (.bool false), (.bool false), (.bool true), (.bool true), (.bool false), (.bool false), (.bool false), (.bool true), (.bool false), (.bool false), undef, undef, undef, undef, undef, undef, undef, undef, undef, undef, undef, undef, undef, x58, x59, x60, x61, x62, x63, x64, x65, x66, x67, x68, x69, x70, x71, x72, x73, x74, x75, x76, x77, x78, x79, x80, x81, x82, x83, x84, x85, x86, x87, x88, x89, x90, x91, x92, x93, (.bool false), undef, undef, undef, undef, undef, undef, undef, undef, undef, undef, undef, undef, undef, undef, undef, undef, undef, undef, undef, undef, undef, undef, undef, undef, undef, undef, undef, undef, undef, undef, undef, undef, undef, undef, undef, undef, undef, undef, undef, undef], []⟩) ∧ D w') ⟨#[(.slice a n cap), undef, (.bool false), (.slice (some ⟨b, off, none⟩) k cap2), (.int .i64 m), (.int .i64 u), (.bool true), (.int .i64 m), (.int .i64 u), (.bool true), undef, (.slice a n cap), (.int .i64 (n : Int)), (.bool false), (.slice a n cap), (.slice (some ⟨b, off, none⟩) k cap2), (.tuple #[.int .i64 m, .int .i64 u, .bool (true)]), (.slice (some ⟨b, off, none⟩) k cap2), (.tuple #[.int .i64 m, .int .i64 u, .bool (true)]), (.int .i64 m), (.int .i64 u), (.bool true), (.tuple #[.int .i64 m, .int .i64 u, .bool (true)]), (.slice (some ⟨b, off, none⟩) k cap2), (.tuple #[.int .i64 m, .int .i64 u, .bool (true)]), (.int .i64 m), (.int .i64 u), (.bool true), (.int .i64 m), (.int .i64 m), (.bool false), (.bool false), (.int .i64 u), (.int .i64 u), (.bool false), (.bool false), (.bool false), (.bool true), (.bool true), (.bool false), (.bool false), (.bool false), (.bool true), (.bool false), (.bool false), undef, undef, undef, undef, undef, undef, undef, undef, undef, undef, undef, undef, undef, undef, undef, undef, undef, undef, undef, undef, undef, undef, undef, undef, undef, undef, undef, undef, undef, undef, undef, undef, undef, undef, undef, undef, undef, undef, undef, undef, undef, undef, undef, undef, undef, undef, undef, undef, undef, undef, undef, undef, undef, undef, undef, undef, undef, undef, undef, undef, undef, undef, undef, undef, undef, undef, undef, undef, undef, undef, undef, undef, undef, undef, undef, undef, undef, undef, undef, undef, undef, undef, undef, undef, undef, undef, undef, undef, undef, undef], []⟩ W := by
  have hk1 : ((k : Int) == 2) = false := by simpa using hk
  have hk2 : ¬ k = 2 := by omega
  simp only [Try.f5, Option.getD_some, regL]
  refine wp_region_quiet_lit (by kernel_rfl) (by kernel_rfl) ?_
  repeat (go_big_quiet_step (fail))
  refine wpQuiet_nil ?_
  intro _ hw'
  obtain ⟨nq, hw''⟩ := hw'
  subst hw''
  exact ⟨rfl, ⟨_, _, _, _, _, _, _, _, _, _, _, _, _, _, _, _, _, _, _, _, _, _, _, _, _, _, _, _, _, _, _, _, _, _, _, _, rfl⟩, hD nq⟩
end Go.Proofs.Ytkhmooemgjichaa
