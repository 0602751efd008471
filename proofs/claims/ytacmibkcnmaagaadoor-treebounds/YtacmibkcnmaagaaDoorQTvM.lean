/-
  The nodes of the law TreeNames, as plain data: what Valid says of them. Conditions: each theorem's own premises.
-/
import Derived.Test.YtacmibkcnmaagaaDoorQTvK
namespace Go.Proofs.YtacmibkcnmaagaaDoor
open Go.RowKit Go.Lib

/-- The names of the law's node: its own, its input's, its output's, its clock's, the first equation's at the left, its variable, the second's at the left, its 'every'. -/
structure Nms where
  f : List UInt8
  i : List UInt8
  o : List UInt8
  c : List UInt8
  l1 : List UInt8
  v : List UInt8
  l2 : List (List UInt8)
  ev : List UInt8
/-- The law's node; its rows lie from B on, the second equation's names in block g. -/
def Nms.ng (p : Nms) (B g : Nat) : Ng :=
  ⟨p.f, some ⟨B, 0, none⟩, 1, [⟨3, p.i, 2, none, 0, []⟩], some ⟨B + 1, 0, none⟩, 1, [⟨4, p.o, 1, none, 0, []⟩], some ⟨B + 3, 0, none⟩, 1, [⟨5, [121], 1, some ⟨B + 2, 0, none⟩, 1, [(p.c, true)]⟩], some ⟨B + 7, 0, none⟩, 2,
    [⟨6, some ⟨B + 5, 0, none⟩, 1, [p.l1], .mk 3 7 0 p.v none 0 [], [], none, 0, [], []⟩, ⟨8, some ⟨g, 0, none⟩, p.l2.length, p.l2, .mk 0 0 0 [] none 0 [], [103], none, 0, [], p.ev⟩]⟩
/-- What is amiss with it. -/
def Nms.bad (p : Nms) : Option (Option Int × Nat) :=
  if badN p.f = true then some (none, 8) else if badN p.i = true then some (some 3, 8) else if badN p.o = true then some (some 4, 8) else if badN p.c = true then some (some 5, 8) else if badN p.l1 = true then some (some 6, 8) else
  if badN p.v = true then some (some 7, 8) else if p.l2.any badN = true then some (some 8, 8) else if p.ev ≠ [] ∧ badN p.ev = true then some (some 8, 8) else none
theorem badN_y : badN [121] = false := by kernel_rfl
theorem badN_g : badN [103] = false := by kernel_rfl
theorem Nms.many (p : Nms) (B g : Nat) : manyB (p.ng B g) = false := by
  unfold manyB Nms.ng
  simp [allX, Qx.exprs, cntL, Ex.cnt]
theorem Nms.deep (p : Nms) (B g : Nat) : (p.ng B g).eqs.any deepQ = false := by
  unfold Nms.ng
  simp [deepQ, Ex.dep, depL]
theorem Nms.decls (p : Nms) (B g : Nat) : declsE 2 0 ((p.ng B g).ins ++ ((p.ng B g).outs ++ (p.ng B g).locs)) = if badN p.i = true then some (3, 8) else if badN p.o = true then some (4, 8) else if badN p.c = true then some (5, 8) else none := by
  unfold Nms.ng
  simp only [List.cons_append, List.nil_append, declsE, declE, badN_y]
  cases badN p.i <;> cases badN p.o <;> cases h : badN p.c <;> simp [h]
theorem one_part (v : List UInt8) : partsE (partsL [Ex.mk 3 7 0 v none 0 []]) = if badN v = true then some (7, 8) else none := by
  rw [show partsL [Ex.mk 3 7 0 v none 0 []] = [Ex.mk 3 7 0 v none 0 []] from by simp [partsL, Ex.parts]]
  unfold partsE
  cases h : badN v <;> simp [partE, partsE, Ex.l, Ex.op, Ex.n, Ex.name, Ex.pos, opN, vN, hasN, h]
theorem no_part : partsE (partsL []) = none := rfl
set_option linter.unusedSimpArgs false in
theorem Nms.eqs (p : Nms) (B g : Nat) (hl : p.l2 ≠ []) : eqsE (p.ng B g).eqs = if badN p.l1 = true then some (6, 8) else if badN p.v = true then some (7, 8) else if p.l2.any badN = true then some (8, 8) else if p.ev ≠ [] ∧ badN p.ev = true then some (8, 8) else none := by
  have hl2 : p.l2.length ≠ 0 := by simpa using hl
  unfold Nms.ng
  simp only [eqsE, eqE, badN_g, Qx.exprs, Ex.op]
  cases h1 : badN p.l1 <;> cases h2 : badN p.v <;> cases h3 : p.l2.any badN <;> cases h4 : badN p.ev <;> by_cases h5 : p.ev = [] <;> simp [h1, h2, h3, h4, h5, hl2, one_part, no_part]
theorem Nms.valid (p : Nms) (B g : Nat) (hl : p.l2 ≠ []) : validE (p.ng B g) = p.bad := by
  unfold validE
  rw [p.many, p.deep, show (p.ng B g).ins.length + (p.ng B g).outs.length = 2 from rfl, p.decls, p.eqs B g hl]
  unfold Nms.bad
  rw [show (p.ng B g).name = p.f from rfl]
  cases badN p.f <;> cases badN p.i <;> cases badN p.o <;> cases badN p.c <;> cases badN p.l1 <;> cases badN p.v <;> cases p.l2.any badN <;> cases badN p.ev <;> by_cases h5 : p.ev = [] <;> simp [h5]
end Go.Proofs.YtacmibkcnmaagaaDoor
