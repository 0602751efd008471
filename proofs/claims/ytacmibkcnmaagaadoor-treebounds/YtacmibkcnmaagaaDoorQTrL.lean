/-
  The walks of tree's counted and Count. Conditions: each theorem's own premises.
-/
import Derived.Test.YtacmibkcnmaagaaDoorQTrK
namespace Go.Proofs.YtacmibkcnmaagaaDoor
open Go.RowKit Go.Lib Go.Sort Go.Shelf
attribute [local go_sem] Oper.semAt_some

def Qx.vals (q : Qx) : List Value := [.int .i64 q.pos, .slice q.lA q.left.length q.lc, .int .i64 q.e.op, .int .i64 q.e.pos, .int .i64 q.e.n, .string ⟨q.e.name.toArray⟩, .slice q.e.A q.e.l.length q.e.c, .string ⟨q.node.toArray⟩, .slice q.A q.l.length q.c, .string ⟨q.every.toArray⟩]
/-- How equations lie in a row. -/
def LQ : Lie Qx := ⟨37, 10, Qx.vals, fun _ => rfl, fun _ u hu => by
  simp [Qx.vals] at hu
  rcases hu with rfl | rfl | rfl | rfl | rfl | rfl | rfl | rfl | rfl | rfl <;> rfl⟩
/-- A slice of equations that lie. -/
structure Qs (W : World) (K : Nat → Prop) (A : Option Addr) (l : List Qx) : Prop where
  at_ : l.length ≠ 0 → ∃ b o, A = some ⟨b, o, none⟩ ∧ K b
  row : RowAt W A (LQ.cells l)
  all : ∀ q ∈ l, q.Lies W K
theorem Qx.Lies.keepV {W W' : World} {K K' : Nat → Prop} {q : Qx} (h : q.Lies W K) (hK : ∀ b, K b → K' b) (hk : ∀ (p : Addr) (v : Value), K p.block → W.cell? p = some v → W'.cell? p = some v) : q.Lies W' K' :=
  ⟨Ex.Lies.keepV hK hk q.e h.e, h.l.keepV hK hk⟩
theorem Qs.keepV {W W' : World} {K K' : Nat → Prop} {A : Option Addr} {l : List Qx} (h : Qs W K A l) (hK : ∀ b, K b → K' b) (hk : ∀ (p : Addr) (v : Value), K p.block → W.cell? p = some v → W'.cell? p = some v) : Qs W' K' A l :=
  ⟨fun hn => by obtain ⟨b, o, e, hb⟩ := h.at_ hn; exact ⟨b, o, e, hK b hb⟩, fun b o e j u hu => by
    have hl : l.length ≠ 0 := by
      intro h0
      rw [List.eq_nil_of_length_eq_zero h0] at hu
      simp [Lie.cells] at hu
    obtain ⟨b', o', e', hb⟩ := h.at_ hl
    rw [e] at e'
    cases e'
    exact hk _ _ hb (h.row b o e j u hu), fun q hq => (h.all q hq).keepV hK hk⟩
theorem Qs.kp {K C : Nat → Prop} {W W' : World} {A : Option Addr} {l : List Qx} (h : Qs W K A l) (hk : KpC C W W') (hC : ∀ b, K b → ¬ C b) : Qs W' K A l := h.keepV (fun _ h => h) fun p v hp hv => hk.cell p v (hC _ hp) hv
theorem Qs.ten {W : World} {K : Nat → Prop} {b o : Nat} {l : List Qx} (h : Qs W K (some ⟨b, o, none⟩) l) {k : Nat} (hk : k < l.length) :
    W.cell? ⟨b, o + k * 10, none⟩ = some (.int .i64 l[k].pos) ∧ W.cell? ⟨b, o + k * 10 + 1, none⟩ = some (.slice l[k].lA l[k].left.length l[k].lc) ∧ W.cell? ⟨b, o + k * 10 + 2, none⟩ = some (.int .i64 l[k].e.op) ∧ W.cell? ⟨b, o + k * 10 + 3, none⟩ = some (.int .i64 l[k].e.pos) ∧ W.cell? ⟨b, o + k * 10 + 4, none⟩ = some (.int .i64 l[k].e.n) ∧
    W.cell? ⟨b, o + k * 10 + 5, none⟩ = some (.string ⟨l[k].e.name.toArray⟩) ∧ W.cell? ⟨b, o + k * 10 + 6, none⟩ = some (.slice l[k].e.A l[k].e.l.length l[k].e.c) ∧ W.cell? ⟨b, o + k * 10 + 7, none⟩ = some (.string ⟨l[k].node.toArray⟩) ∧ W.cell? ⟨b, o + k * 10 + 8, none⟩ = some (.slice l[k].A l[k].l.length l[k].c) ∧ W.cell? ⟨b, o + k * 10 + 9, none⟩ = some (.string ⟨l[k].every.toArray⟩) := by
  have g : ∀ j u, j < 10 → (LQ.enc l[k])[j]? = some u → W.cell? ⟨b, o + k * 10 + j, none⟩ = some u := fun j u hj hu => by
    have h1 := h.row b o rfl (k * 10 + j) u (by rw [← hu]; exact LQ.cells_at l k hk j hj)
    rw [← Nat.add_assoc] at h1
    exact h1
  exact ⟨g 0 _ (by omega) rfl, g 1 _ (by omega) rfl, g 2 _ (by omega) rfl, g 3 _ (by omega) rfl, g 4 _ (by omega) rfl, g 5 _ (by omega) rfl, g 6 _ (by omega) rfl, g 7 _ (by omega) rfl, g 8 _ (by omega) rfl, g 9 _ (by omega) rfl⟩
/-- The expressions of all that count. -/
def allX (l : List Qx) : List Ex := l.flatMap Qx.exprs
theorem allX_take (l : List Qx) (k : Nat) (h : k < l.length) : allX (l.take (k + 1)) = allX (l.take k) ++ (l[k]).exprs := by
  have e : l.take (k + 1) = l.take k ++ [l[k]] := by simp
  unfold allX
  rw [e, List.flatMap_append]
  simp
theorem allX_le (l : List Qx) (k : Nat) (h : k < l.length) : cntL (allX (l.take k)) + cntL (l[k]).exprs ≤ cntL (allX l) := by
  have h1 : allX l = allX (l.take (k + 1)) ++ allX (l.drop (k + 1)) := by unfold allX; rw [← List.flatMap_append, List.take_append_drop]
  rw [h1, allX_take l k h, cntL_append, cntL_append]
  omega
/-- Not too deep, not too wide. -/
def Qx.fits (d : Nat) (q : Qx) : Prop := depL q.exprs ≤ d ∧ q.exprs.length ≤ 100000 ∧ slimL 100000 q.exprs = true ∧ q.l.length ≤ 100000

set_option maxRecDepth 100000 in
set_option maxHeartbeats 4000000 in
theorem counted_el (q bS : Nat) (K C : Nat → Prop) (A : Option Addr) (c d : Nat) (l : List Qx) (w : World) (hf : ∀ x ∈ l, x.fits d) (hl : l.length ≤ 100000) (hx : Qs w K A l) (hK : ∀ b, K b → b < w.heap.size) (hKC : ∀ b, K b → ¬ C b) (hC : ∀ b, C b → b < w.heap.size) (hb : bS < w.heap.size) (hS : w.cell? ⟨bS, 4, none⟩ = some (.slice A l.length c)) :
    SeqOw Fence.wide q Tryd.prog 113 #[.pointer (some ⟨bS, 0, none⟩)] (fun x : Ex => #[x.val]) (KpC C) (fun _ _ => True) (fun xs => xs = partsL (allX l)) (fun _ => True) (cntL (allX l)) w := by
  intro lp J Jx W hW hJ _ hY hJ0
  have HX : Hid (Qs W K A l) := Lib.hid (hx.keepV (fun _ h => h) fun p v hp hv => (hW.cell (hK _ hp)).trans hv)
  have hSW : W.cell? ⟨bS, 4, none⟩ = some (.slice A l.length c) := (hW.cell (p := ⟨bS, 4, none⟩) hb).trans hS
  have HW := Lib.hid (fun (x : Qx) (hm : x ∈ l) (A : Option Addr) (c : Nat) (pre : List Ex) (W' : World) (hx : Xs W' (fun b => K b ∨ W.heap.size ≤ b) A c x.exprs) (hn : W.heap.size ≤ W'.heap.size) (hJ' : J pre W') (hN : pre.length + cntL x.exprs ≤ cntL (allX l)) =>
    wlk_any lp W.heap.size (cntL (allX l)) (partsL x.exprs) (fun b => K b ∨ W.heap.size ≤ b) C J Jx hJ (fun b hb hc => by
      rcases hb with hb | hb
      · exact hKC b hb hc
      · have := hC b hc; have := hW.size; omega) (fun b hb => Nat.lt_of_lt_of_le (hC b hb) hW.size)
      (fun pre x W1 h1 _ _ _ h4 => yield_mono (yield_any (hY pre x W1 h1 trivial h4)) fun e W' h => h.elim (fun h => .inl ⟨h.1, h.2.1, h.2.2.1⟩) (fun h => .inr ⟨h.1, h.2.1⟩)) d A c x.exprs pre W' (hf x hm).1 (hf x hm).2.1 (hf x hm).2.2.1 (fun _ h => h) hx hn hJ' hN)
  have HE := Lib.hid (fun (x : Qx) (hm : x ∈ l) (W' : World) (hx : x.Lies W' K) (hn : W.heap.size ≤ W'.heap.size) => expressions_any x K W' hx (fun b hb => by have := hK b hb; have := hW.size; omega) (hf x hm).2.2.2)
  obtain ⟨len, hlen⟩ : ∃ len, len = l.length := ⟨_, rfl⟩
  rw [← hlen] at hSW hl
  have HL := Lib.hid hlen
  have HKC := Lib.hid hKC
  have HJ := Lib.hid hJ
  have HJ0 := Lib.hid hJ0
  have HC := Lib.hid (fun b (h : C b) => Nat.lt_of_lt_of_le (hC b h) hW.size)
  clear hx hK hKC hC hS hY hJ0 hlen hf hJ hW hb
  refine callsIn_wide.2 ?_
  go_enter Tryd.func113, Tryd.ntmps113
  go_wp2_with fail
  go_loopw [8] (fun i wr => ∃ k : Nat, k ≤ len ∧ i = .int .i64 (k : Int) ∧ J (partsL (allX (l.take k))) wr ∧ KpC C W wr) (fun i _ => len - (RowKit.intOf i).toNat)
  case atStart => exact ⟨0, Nat.zero_le _, rfl, by simpa [partsL, allX] using HJ0.out, KpC.refl _ _⟩
  case round =>
    obtain ⟨k, hk, rfl, hJ, hkp⟩ := hrel
    by_cases hp : k < len
    · have hp' : k < l.length := by rw [← HL.out]; exact hp
      obtain ⟨b, o, rfl, hKb⟩ := HX.out.at_ (by omega)
      have hx2 := HX.out.kp hkp HKC.out
      obtain ⟨c0, c1, c2, c3, c4, c5, c6, c7, c8, c9⟩ := hx2.ten hp'
      have hlx := hx2.all _ (List.getElem_mem hp')
      have hm := List.getElem_mem hp'
      have hat := allX_take l k hp'
      have hal := allX_le l k hp'
      obtain ⟨x, hx⟩ : ∃ x, x = l[k] := ⟨_, rfl⟩
      rw [← hx] at c0 c1 c2 c3 c4 c5 c6 c7 c8 c9 hlx hm hat hal
      have HJr := Lib.hid hJ
      have HKp := Lib.hid hkp
      have HLx := Lib.hid hlx
      have HAt := Lib.hid hat
      have HAl := Lib.hid hal
      have HM := Lib.hid hm
      clear hx hp' hJ hkp hx2 hlx hm hat hal
      go_wp2_with fail
      have hal1 : ∀ o, Below wr.heap.size wr (wr.alloc o) := fun o => (Below.refl _ _).alloc (Nat.le_refl _) _
      refine (HE.out x HM.out _ (HLx.out.keepV (fun _ h => h) fun p v _ hv => ((hal1 _).cell (World.block_lt_of_cell? _ _ hv)).trans hv) (Nat.le_trans HKp.out.size (hal1 _).size)).mono ?_
      rintro e w2 ⟨A2, cx, rfl, hx2, hB2⟩
      have hB2' : Below wr.heap.size wr w2 := (hal1 _).trans (hB2.mono (hal1 _).size)
      have hz2 : W.heap.size ≤ w2.heap.size := Nat.le_trans HKp.out.size hB2'.size
      have hk1 := HKp.out.size
      have hJ2 := ow_below HJ.out HJr.out hB2'
      have HWk := Lib.hid (HW.out x HM.out A2 cx (partsL (allX (l.take k))) w2 (hx2.keep (fun b hb => hb.elim .inl fun h => .inr (by have := h.1; simp only [World.size_alloc] at this; omega)) fun _ _ => rfl) hz2 hJ2 (by rw [partsL_length]; exact HAl.out))
      have HKp2 := Lib.hid (HKp.out.trans (KpC.of_below (C := C) hB2'))
      clear hx2 hB2 hJ2 HJr HKp HLx hal1 hB2' c0 c1 c2 c3 c4 c5 c6 c7 c8 c9
      go_wp2_with fail
      refine HWk.out.mono ?_
      rintro e w3 (⟨rfl, hJ3, hk3⟩ | ⟨rfl, p, hpre, hJx3⟩)
      · have HJ3 : Hid (J (partsL (allX (l.take (k + 1)))) w3) := Lib.hid (by rw [HAt.out, partsL_append]; exact hJ3)
        have HKp3 := Lib.hid (HKp2.out.trans hk3)
        clear hJ3 hk3
        go_wp2
        go_roundw
        case rel => exact ⟨k + 1, by omega, by go_num, HJ3.out, HKp3.out⟩
        case measure => simp [RowKit.intOf]; omega
      · have HX3 := Lib.hid hJx3
        clear hJx3 hpre
        go_wp2
        refine bodyPost_ret (results_none rfl _ _ _) rfl ?_
        exact ⟨⟨_, rfl⟩, .inr ⟨_, trivial, HX3.out⟩⟩
    · obtain rfl : k = len := by omega
      have HJr : Hid (J (partsL (allX l)) wr) := Lib.hid (by rw [HL.out, List.take_length] at hJ; exact hJ)
      clear hJ hkp
      go_wp2
      go_end0
      exact ⟨⟨_, rfl⟩, .inl ⟨_, rfl, HJr.out⟩⟩
end Go.Proofs.YtacmibkcnmaagaaDoor
