/-
  Pieces of bytes that are runes, and the statements' own look at chapter 5's examples. Conditions: none.
-/
import Derived.Test.YtacmibkcnmaagaaDoorQTxE
namespace Go.Proofs.YtacmibkcnmaagaaDoor
open Go.Shelf Go.RowKit Go.Lib

theorem pcs_ascii {a : UInt8} (t : List UInt8) (h : a.toNat < 128) : pcs (a :: t) = (a.toNat, 1) :: pcs t :=
  pcs_app (p := [a]) (by simp) (by simp [dec, decodeN, h])
theorem pcs_two {a b : UInt8} (t : List UInt8) (h1 : 194 ≤ a.toNat) (h2 : a.toNat < 224) (h3 : b.toNat / 64 = 2) : pcs (a :: b :: t) = (a.toNat % 32 * 64 + b.toNat % 64, 2) :: pcs t := by
  refine pcs_app (p := [a, b]) (by simp) ?_
  have e1 : ¬ a.toNat < 128 := by omega
  have e2 : a.toNat / 32 = 6 := by omega
  have e3 : 128 ≤ a.toNat % 32 * 64 + b.toNat % 64 := by omega
  simp [dec, decodeN, e1, e2, h3, e3]

theorem line_ex : lnAt ⟨#[97, 10, 98, 99]⟩ 3 = (2, 2) := by
  have e : runs [97, 10, 98, 99] = [(0, 97), (1, 10), (2, 98), (3, 99)] := by
    unfold runs
    rw [pcs_ascii _ (by decide), pcs_ascii _ (by decide), pcs_ascii _ (by decide), pcs_ascii _ (by decide), pcs_nil]
    decide
  unfold lnAt
  show lc ((runs [97, 10, 98, 99]).takeWhile _) = _
  rw [e]
  decide
theorem name_ex : nameB ⟨#[206, 187, 49]⟩ = true := by
  have e : pcs [206, 187, 49] = [(955, 2), (49, 1)] := by
    rw [pcs_two _ (by decide) (by decide) (by decide), pcs_ascii _ (by decide), pcs_nil]
    decide
  unfold nameB kwB
  show (_ && (_ && (!(decide ([206, 187, 49] ∈ kws)) && nmR (pcs [206, 187, 49])))) = true
  rw [e]
  decide

end Go.Proofs.YtacmibkcnmaagaaDoor
