/- waysByGreatest: its drawn region (the greatest coin, the others). -/
import Derived.Test.YtkhmooemgjichaaHr
import Derived.RegionTactic
import Derived.ChangeAlike
import Derived.BigRegion
namespace Go.Proofs.Ytkhmooemgjichaa
open Go Go.Conc Go.RowKit

noncomputable def body24 : Code := Try.f24.body.getD .skip
def thirdOf : Code → Code
  | .seq _ (.seq _ (.seq r _)) => r
  | c => c
noncomputable def regG : Code := thirdOf body24

set_option maxRecDepth 100000 in
theorem ways_r2 (u : World) (b off n cap : Nat) (gr : Int) (x1 x3 x4 x8 x9 x10 x11 x12 : Value) (hc : u.cell? ⟨b, off + n, none⟩ = some (.int .i64 gr)) (hcap : n + 1 ≤ cap) :
    regG.wp Try.prog (fun e a' w' => e = .normal ∧ (∃ x13 x14 x15 x16 x17 x18 x19, a' = ⟨#[.slice (some ⟨b, off, none⟩) (n + 1) cap, x1, undef, x3, x4, .int .i64 n, .pointer (some ⟨u.heap.size, 0, none⟩), .slice (some ⟨b, off, none⟩) n cap, x8, x9, x10, x11, x12, x13, x14, x15, x16, x17, x18, x19, undef, undef, undef, undef, undef, undef, undef], []⟩) ∧
      Same (u.alloc (.cells #[.int .i64 gr] 3)) w')
    ⟨#[.slice (some ⟨b, off, none⟩) (n + 1) cap, x1, undef, x3, x4, .int .i64 n, undef, undef, x8, x9, x10, x11, x12, undef, undef, undef, undef, undef, undef, undef, undef, undef, undef, undef, undef, undef, undef], []⟩ u := by
  have h1 : (n : Int) < (n : Int) + 1 := by omega
  have hb : b < u.heap.size := World.block_lt_of_cell? u _ hc
  have hc1 : (u.alloc (.cells #[.int .i64 0] 3)).cell? ⟨b, off + n, none⟩ = some (.int .i64 gr) := (((Below.refl _ _).alloc (Nat.le_refl _) _ : Below u.heap.size u (u.alloc (.cells #[.int .i64 0] 3))).cell hb).trans hc
  have h2 : (0 : Int) ≤ (n : Int) := by omega
  have h3 : (n : Int) ≤ (cap : Int) := by omega
  simp only [regG, thirdOf, body24, Try.f24, Option.getD_some]
  go_region
  exact ⟨rfl, ⟨_, _, _, _, _, _, _, rfl⟩, _, _, rfl⟩
end Go.Proofs.Ytkhmooemgjichaa
