/- How a slice of bytes that came in reads. -/
import Derived.Test.YtfgafbjofkicdaaRow
import Derived.Test.YtfgafbjofkicdaaReader
namespace Go.Proofs.Ytfgafbjofkicdaa
open Go.RowKit

theorem rowBytes {w : World} {a : Option Addr} {len cap : Nat} {zs : List Int} (h : IsRow .u8 w a len cap zs) : IsBytes w a len ∧ len ≤ cap := by
  rcases h with ⟨rfl, rfl, rfl, rfl⟩ | ⟨x, rfl, hlc, hcm, hz, hcell, hwf⟩
  · exact ⟨fun j hj => by omega, Nat.le_refl _⟩
  · refine ⟨fun j hj => ?_, hlc⟩
    obtain ⟨b, off, rfl, hc⟩ := ints_at hcell (by omega)
    have hjz : j < zs.length := by omega
    have hb := bounds_u8 (hwf (zs.getD j 0) (by simp [List.getD, hjz]))
    exact ⟨b, off, _, rfl, hc j hjz, by omega, by omega⟩

end Go.Proofs.Ytfgafbjofkicdaa
