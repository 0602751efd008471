/-
  The walks of tree's expressions, counted, Count. Conditions: each theorem's own premises.
-/
import Derived.Test.YtacmibkcnmaagaaDoorQTrJ
import Derived.Test.YtacmibkcnmaagaaDoorQTrG
namespace Go.Proofs.YtacmibkcnmaagaaDoor
open Go.RowKit Go.Lib Go.Sort Go.Shelf

/-- An equation, and where its lists lie. -/
structure Qx where
  pos : Int
  lA : Option Addr
  lc : Nat
  left : List (List UInt8)
  e : Ex
  node : List UInt8
  A : Option Addr
  c : Nat
  l : List Ex
  every : List UInt8
def Qx.val (q : Qx) : Value := .agg #[.int .i64 q.pos, .slice q.lA q.left.length q.lc, .int .i64 q.e.op, .int .i64 q.e.pos, .int .i64 q.e.n, .string ⟨q.e.name.toArray⟩, .slice q.e.A q.e.l.length q.e.c, .string ⟨q.node.toArray⟩, .slice q.A q.l.length q.c, .string ⟨q.every.toArray⟩]
/-- The expressions that count. -/
def Qx.exprs (q : Qx) : List Ex := if q.node = [] then q.e :: q.l else q.l
/-- It lies in memory, in blocks of a kind. -/
structure Qx.Lies (W : World) (K : Nat → Prop) (q : Qx) : Prop where
  e : q.e.Lies W K
  l : Xs W K q.A q.c q.l
def RetXe (w : World) (K : Nat → Prop) (l : List Ex) (e : Ending) (w' : World) : Prop :=
  ∃ A c, e = .returned (.slice A l.length c) ∧ Xs w' (fun b => K b ∨ w.heap.size ≤ b ∧ b < w'.heap.size) A c l ∧ Below w.heap.size w w'
theorem ow_one {α : Type} (L : Lie α) (w : World) (x : α) : Ow L (w.alloc (.cells (L.enc x).toArray L.ty)) w.heap.size (.slice (some ⟨w.heap.size, 0, none⟩) 1 1) [x] :=
  Ow.of (l := [x]) (cap := 1) (Nat.le_refl _) (heap_alloc_new w _) (by simp) (by simp [maxLen]) (by simp [L.len]) (by rw [show ([x] : List α).length * L.n = (L.enc x).length by rw [L.len]; simp]; simp [Lie.cells])
/-- append([]T{x}, others...). -/
theorem append_built {α : Type} {L : Lie α} {P : Program} {t : TypeId} (H : LieAt P t L) {w : World} {B : Nat} {A : Option Addr} {c : Nat} {l : List α} (x : α) (hc : Rw L w B A l) (hz : A = none → c = 0) (hB : B ≤ w.heap.size) (hle : l.length ≤ 1000000) :
    ∃ A' c' w', (∀ ty, (Builtin.append_ #[t, t] ty #[.slice (some ⟨w.heap.size, 0, none⟩) 1 1, .slice A l.length c]).run P (w.alloc (.cells (L.enc x).toArray L.ty)) = .ok (.slice A' (l.length + 1) c') w') ∧ Ow L w' w.heap.size (.slice A' (l.length + 1) c') (x :: l) ∧ Below w.heap.size w w' := by
  obtain ⟨v', w', hrun, hO, hg⟩ := append_ow H (ow_one L w x) (hc.keep (w' := w.alloc (.cells (L.enc x).toArray L.ty)) fun p hp => World.cell?_alloc_lt _ _ _ (by omega)) rfl hz (by simp; omega) (by simp)
  rw [List.singleton_append] at hO
  obtain ⟨A', c', rfl⟩ : ∃ A c, v' = .slice A (l.length + 1) c := by
    obtain ⟨A, c, h, _⟩ := hO.rw
    exact ⟨A, c, h⟩
  exact ⟨A', c', w', hrun, hO, ((Below.refl _ w).alloc (Nat.le_refl _) _).grown hg (by simp) fun k hk => by cases hk; exact Nat.le_refl _⟩

set_option maxRecDepth 100000 in
set_option maxHeartbeats 1000000 in
theorem expressions_any (q : Qx) (K : Nat → Prop) (w : World) (hq : q.Lies w K) (hK : ∀ b, K b → b < w.heap.size) (hl : q.l.length ≤ 100000) :
    Calls Tryd.prog 37 #[q.val] w (RetXe w K q.exprs) := by
  obtain ⟨W0, hW0⟩ : ∃ W0, W0 = w.alloc (.cells #[.int .i64 q.pos, .slice q.lA q.left.length q.lc, .int .i64 q.e.op, .int .i64 q.e.pos, .int .i64 q.e.n, .string ⟨q.e.name.toArray⟩, .slice q.e.A q.e.l.length q.e.c, .string ⟨q.node.toArray⟩, .slice q.A q.l.length q.c, .string ⟨q.every.toArray⟩] 37) := ⟨_, rfl⟩
  have hB0 : Below w.heap.size w W0 := by rw [hW0]; exact (Below.refl _ _).alloc (Nat.le_refl _) _
  have hb0 : Blk W0 w.heap.size 37 #[.int .i64 q.pos, .slice q.lA q.left.length q.lc, .int .i64 q.e.op, .int .i64 q.e.pos, .int .i64 q.e.n, .string ⟨q.e.name.toArray⟩, .slice q.e.A q.e.l.length q.e.c, .string ⟨q.node.toArray⟩, .slice q.A q.l.length q.c, .string ⟨q.every.toArray⟩] := by rw [hW0]; exact heap_alloc_new w _
  have hXl : Xs W0 K q.A q.c q.l := hq.l.keep (fun _ h => h) fun p hp => hB0.cell (hK _ hp)
  have hXe : q.e.Lies W0 K := Ex.Lies.keep (fun _ h => h) (fun p hp => hB0.cell (hK _ hp)) q.e hq.e
  have HB0 := Lib.hid hB0
  have HXl := Lib.hid hXl
  have HXe := Lib.hid hXe
  have HK := Lib.hid hK
  have k2 : W0.cell? ⟨w.heap.size, 2, none⟩ = _ := hb0.cell 2
  have k3 : W0.cell? ⟨w.heap.size, 3, none⟩ = _ := hb0.cell 3
  have k4 : W0.cell? ⟨w.heap.size, 4, none⟩ = _ := hb0.cell 4
  have k5 : W0.cell? ⟨w.heap.size, 5, none⟩ = _ := hb0.cell 5
  have k6 : W0.cell? ⟨w.heap.size, 6, none⟩ = _ := hb0.cell 6
  have k7 : W0.cell? ⟨w.heap.size, 7, none⟩ = _ := hb0.cell 7
  have k8 : W0.cell? ⟨w.heap.size, 8, none⟩ = _ := hb0.cell 8
  simp only [List.getElem?_toArray, List.getElem?_cons_zero, List.getElem?_cons_succ] at k2 k3 k4 k5 k6 k7 k8
  clear hq hB0 hb0 hK hXl hXe
  dsimp only [Qx.val]
  by_cases hn : q.node = []
  · have hE : Hid (q.exprs = q.e :: q.l) := Lib.hid (by unfold Qx.exprs; rw [if_pos hn])
    rw [hn] at hW0 k7 ⊢
    have hz0 : W0.heap.size = w.heap.size + 1 := by rw [hW0]; simp
    obtain ⟨A', c', w', hrun, hO, hB⟩ := append_built LXat q.e (HXl.out.rw (B := W0.heap.size) fun b hb => Nat.lt_of_lt_of_le (HK.out b hb) HB0.out.size) HXl.out.hd.nil (Nat.le_refl _) (by omega)
    have hXl' : ∀ x ∈ q.e :: q.l, x.Lies w' K := fun x hx => Ex.Lies.keep (fun _ h => h) (fun p hp => hB.cell (Nat.lt_of_lt_of_le (HK.out _ hp) HB0.out.size)) x (by
      rcases List.mem_cons.1 hx with rfl | hx
      · exact HXe.out
      · exact HXl.out.all x hx)
    obtain ⟨A2, c2, h2, hx2⟩ := hO.xs (K := fun b => K b ∨ w.heap.size ≤ b ∧ b < w'.heap.size) (fun x hx => Ex.Lies.keep (fun _ h => .inl h) (fun _ _ => rfl) x (hXl' x hx)) (fun b h1 h2 => .inr ⟨by omega, h2⟩)
    have HF : Hid (RetXe w K (q.e :: q.l) (.returned (.slice A' (q.l.length + 1) c')) w') := Lib.hid ⟨A2, c2, by rw [h2], hx2, HB0.out.trans (hB.mono HB0.out.size)⟩
    rw [hz0] at hrun
    have hrun' : ∀ ty, (Builtin.append_ #[32, 32] ty #[.slice (some ⟨w.heap.size + 1, 0, none⟩) 1 1, .slice q.A q.l.length q.c]).run Tryd.prog (W0.alloc (.cells #[.int .i64 q.e.op, .int .i64 q.e.pos, .int .i64 q.e.n, .string ⟨q.e.name.toArray⟩, .slice q.e.A q.e.l.length q.e.c] 34)) = .ok (.slice A' (q.l.length + 1) c') w' := hrun
    rw [hE.out]
    rw [hW0] at hrun'
    clear hrun hO hB hXl' hx2 h2 k2 k3 k4 k5 k6 k7 k8 hW0
    go_enter Tryd.func37, Tryd.ntmps37
    go_wp2_with (first | (at_builtin; refine wpList_append_eq rfl _ _ 32 rfl _ _ (.slice A' (q.l.length + 1) c') w' rfl rfl (hrun' _) ?_) | go_in)
    go_ret
    exact HF.out
  · have hE : Hid (q.exprs = q.l) := Lib.hid (by unfold Qx.exprs; rw [if_neg hn])
    have hn2 : q.node.isEmpty = false := by simpa using hn
    clear hn k2 k3 k4 k5 k6 k7 k8
    go_enter Tryd.func37, Tryd.ntmps37
    go_wp2_with fail
    rw [← hW0]
    clear hW0
    go_wp2
    go_ret
    exact ⟨q.A, q.c, by rw [hE.out]; rfl, by rw [hE.out]; exact HXl.out.keep (fun _ h => .inl h) (fun _ _ => rfl), HB0.out⟩
end Go.Proofs.YtacmibkcnmaagaaDoor
