/-
  The walk of LexJoins. Conditions: the listed errors lie as they are laid.
-/
import Derived.Test.YtndagbmcdpafjaaDoorQLawLj
namespace Go.Proofs.YtndagbmcdpafjaaDoor
open Go.Shelf Go.RowKit Go.Lib

/-- Where its first loop stands. -/
def JnRel (w2 : World) (l y : List Int) (x v i : Value) (wr : World) : Prop :=
  ∃ (k : Nat) (S : ByteArray) (A : Option Addr) (c : Nat), k ≤ l.length ∧ x = .string S ∧ S.data.toList = encs (catI (itsJ l y k)) ∧ i = .int .i64 (k : Int) ∧ v = .slice A k c ∧ Ow LS wr w2.heap.size (.slice A k c) (txJ l k) ∧ Below w2.heap.size w2 wr
theorem Ow.slice {α : Type} {L : Lie α} {w : World} {base : Nat} {v : Value} {l : List α} (h : Ow L w base v l) : ∃ A c, v = .slice A l.length c := by
  rcases h.form with ⟨rfl, rfl⟩ | ⟨g, cap, cs, rfl, _⟩
  · exact ⟨_, _, rfl⟩
  · exact ⟨_, _, rfl⟩
theorem S_size {S : ByteArray} {L : List UInt8} (h : S.data.toList = L) : S.size = L.length := by have := congrArg List.length h; simpa using this
theorem wpList_row_one {P : Program} {α : Type} {L : Lie α} {W : World} {base : Nat} {v : Value} {l : List α} {t : TypeId} (H : LieAt P t L) (x : α) (h : Ow L W base v l) (hle : l.length < 1099511627776) (hb : base ≤ W.heap.size) :
    ∃ v' w', (∀ ty, (Builtin.append_ #[t, t] ty #[v, .slice (some ⟨W.heap.size, 0, none⟩) 1 1]).run P (W.alloc (.cells (L.enc x).toArray L.ty)) = .ok v' w') ∧ Ow L w' base v' (l ++ [x]) ∧ Below base W w' := by
  obtain ⟨v', w', h1, h2, h3, _⟩ := append_ow_one H x h hle hb
  exact ⟨v', w', h1, h2, h3⟩

end Go.Proofs.YtndagbmcdpafjaaDoor
