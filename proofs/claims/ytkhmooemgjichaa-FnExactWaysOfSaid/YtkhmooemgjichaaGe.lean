/- .. the rest: append, binary operations, conversions. -/
import Derived.Test.YtkhmooemgjichaaGd
namespace Go.Proofs.Ytkhmooemgjichaa
open Go
variable {α β : Type} {P : Program}

theorem Gd.ite {c : Prop} [Decidable c] {x y : Sem α} (hx : Gd P x) (hy : Gd P y) : Gd P (if c then x else y) := by
  split
  · exact hx
  · exact hy
instance gd_ite {c : Prop} [Decidable c] {x y : Sem α} [hx : Gd P x] [hy : Gd P y] : Gd P (if c then x else y) := by
  split
  · exact hx
  · exact hy

set_option maxHeartbeats 2000000 in
instance gd_Builtin_append_ : ∀ x0 x1 x2, Gd P (Go.Builtin.append_ x0 x1 x2) := by
  intros
  unfold Go.Builtin.append_
  repeat' first
    | infer_instance
    | refine Gd.bind ?_ fun _ => ?_
    | refine Gd.map _ ?_
    | refine Gd.ite ?_ ?_
    | intro _
    | split
    | dsimp only [Function.comp]

set_option maxHeartbeats 2000000 in
instance gd_movedNumber : ∀ x0 x1 x2, Gd P (Go.movedNumber x0 x1 x2) := by
  intros
  unfold Go.movedNumber
  repeat' first
    | infer_instance
    | refine Gd.bind ?_ fun _ => ?_
    | refine Gd.map _ ?_
    | refine Gd.ite ?_ ?_
    | intro _
    | split
    | dsimp only [Function.comp]

set_option maxHeartbeats 2000000 in
instance gd_movedPointer : ∀ x0 x1 x2, Gd P (Go.movedPointer x0 x1 x2) := by
  intros
  unfold Go.movedPointer
  repeat' first
    | infer_instance
    | refine Gd.bind ?_ fun _ => ?_
    | refine Gd.map _ ?_
    | refine Gd.ite ?_ ?_
    | intro _
    | split
    | dsimp only [Function.comp]

set_option maxHeartbeats 2000000 in
instance gd_eqGuard : ∀ x0 x1 x2 x3 x4 x5, Gd P (Go.eqGuard x0 x1 x2 x3 x4 x5) := by
  intros
  unfold Go.eqGuard
  repeat' first
    | infer_instance
    | refine Gd.bind ?_ fun _ => ?_
    | refine Gd.map _ ?_
    | refine Gd.ite ?_ ?_
    | intro _
    | split
    | dsimp only [Function.comp]

set_option maxHeartbeats 2000000 in
instance gd_binOp : ∀ x0 x1 x2 x3, Gd P (Go.binOp x0 x1 x2 x3) := by
  intros
  unfold Go.binOp
  repeat' first
    | infer_instance
    | refine Gd.bind ?_ fun _ => ?_
    | refine Gd.map _ ?_
    | refine Gd.ite ?_ ?_
    | intro _
    | split
    | dsimp only [Function.comp]

set_option maxHeartbeats 2000000 in
instance gd_convert : ∀ x0 x1 x2, Gd P (Go.convert x0 x1 x2) := by
  intros
  unfold Go.convert
  repeat' first
    | infer_instance
    | refine Gd.bind ?_ fun _ => ?_
    | refine Gd.map _ ?_
    | refine Gd.ite ?_ ?_
    | intro _
    | split
    | dsimp only [Function.comp]

set_option maxHeartbeats 2000000 in
instance gd_resolve : ∀ x0 x1 x2, Gd P (Go.resolve x0 x1 x2) := by
  intros
  unfold Go.resolve
  repeat' first
    | infer_instance
    | refine Gd.bind ?_ fun _ => ?_
    | refine Gd.map _ ?_
    | refine Gd.ite ?_ ?_
    | intro _
    | split
    | dsimp only [Function.comp]

end Go.Proofs.Ytkhmooemgjichaa
