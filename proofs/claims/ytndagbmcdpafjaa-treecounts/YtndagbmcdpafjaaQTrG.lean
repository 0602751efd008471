/-
  The iterator that Parts hands back. Conditions: each theorem's own premises.
-/
import Derived.Test.YtndagbmcdpafjaaQTrF
namespace Go.Proofs.Ytndagbmcdpafjaa
open Go.Shelf Go.RowKit Go.Lib
attribute [local go_sem] Oper.semAt_some

theorem blk_ow {W W' : World} {row : Option Nat} {b n : Nat} {t : TypeId} {cs : Array Value} (h : Blk W b t cs) (hg : W.grownBy W' row) (hr : ∀ r, row = some r → n ≤ r ∧ ∃ o : Obj, W.heap[r]? = some o ∧ o.isCells = false) : Blk W' b t cs := by
  refine h.grown hg fun e => ?_
  obtain ⟨o, ho, hc⟩ := (hr b e.symm).2
  rw [show W.heap[b]? = _ from h] at ho
  cases ho
  cases hc
theorem lies_ow {W W' : World} {row : Option Nat} {n : Nat} {K : Nat → Prop} {x : Ex} (h : x.Lies W K) (hg : W.grownBy W' row) (hr : ∀ r, row = some r → n ≤ r ∧ ∃ o : Obj, W.heap[r]? = some o ∧ o.isCells = false) : x.Lies W' K :=
  Ex.Lies.keepV (fun _ h => h) (fun p v _ hv => by
    obtain ⟨o, ho, hi⟩ := isCells_of_cell hv
    refine (World.cell?_of_block (hg.block p.block (Array.getElem?_eq_some_iff.1 ho).1 fun e => ?_)).trans hv
    obtain ⟨o2, ho2, hc⟩ := (hr _ e.symm).2
    rw [ho] at ho2
    cases ho2
    rw [hi] at hc
    cases hc) x h
/-- Where Parts' loop stands. -/
def PtI (J : List Ex → World → Prop) (b0 lp n : Nat) (pre : List Ex) (W : World) : Prop := ∃ p, erL p = erL pre ∧ J p W ∧ Blk W b0 48 #[.func (.yield lp) #[] #[]] ∧ n ≤ W.heap.size
def PtX (Jx : List Ex → World → Prop) (c : Code) (pre : List Ex) (W : World) : Prop := c = .ret ∧ ∃ p, erL p = erL pre ∧ Jx p W

theorem retYd_of {e : Ending} {p q r p' r' : Prop} (h : (e = .returned (.bool true) ∧ p ∧ q ∧ r) ∨ (e = .returned (.bool false) ∧ p' ∧ r')) : ∃ bb : Bool, e = .returned (.bool bb) ∧ Hid ((bb = true ∧ p ∧ q ∧ r) ∨ (bb = false ∧ p' ∧ r')) := by
  rcases h with ⟨h, h2⟩ | ⟨h, h2⟩
  · exact ⟨true, h, Lib.hid (.inl ⟨rfl, h2⟩)⟩
  · exact ⟨false, h, Lib.hid (.inr ⟨rfl, h2⟩)⟩
set_option maxRecDepth 100000 in
set_option maxHeartbeats 4000000 in
/-- The parts come one by one, each in memory of its own. -/
theorem parts_el (q bS : Nat) (K C : Nat → Prop) (A : Option Addr) (c d : Nat) (l : List Ex) (w : World) (hd : depL l ≤ d) (hs1 : l.length ≤ 100000) (hs2 : slimL 100000 l = true) (hx : Xs w K A c l) (hK : ∀ b, K b → b < w.heap.size) (hKC : ∀ b, K b → ¬ C b) (hC : ∀ b, C b → b < w.heap.size) (hb : bS < w.heap.size) (hS : w.cell? ⟨bS, 0, none⟩ = some (.slice A l.length c)) :
    SeqOw Fence.wide q Try.prog 21 #[.pointer (some ⟨bS, 0, none⟩)] (fun x : Ex => #[x.val]) (KpC C) (fun x W => x.Lies W (· < W.heap.size)) (fun xs => erL xs = erL (partsL l)) (fun pre => ∃ p, p <+: partsL l ∧ erL pre = erL p) (cntL l) w := by
  intro lp J Jx W hW hJ hJx hY hJ0
  have hxW : Xs W K A c l := hx.keep (fun _ h => h) fun p hp => hW.cell (hK _ hp)
  have hSW : W.cell? ⟨bS, 0, none⟩ = some (.slice A l.length c) := (hW.cell (p := ⟨bS, 0, none⟩) hb).trans hS
  have hKW : ∀ b, K b → b < W.heap.size := fun b h => Nat.lt_of_lt_of_le (hK b h) hW.size
  have hCW : ∀ b, C b → b < W.heap.size := fun b h => Nat.lt_of_lt_of_le (hC b h) hW.size
  obtain ⟨len, hlen⟩ : ∃ len, len = l.length := ⟨_, rfl⟩
  rw [← hlen] at hSW
  have HL := Lib.hid hlen
  have HX := Lib.hid hxW
  have HY := Lib.hid hY
  have HJ := Lib.hid hJ
  have HJx := Lib.hid hJx
  have HJ0 := Lib.hid hJ0
  have HKC := Lib.hid hKC
  have HKW := Lib.hid hKW
  have HCW := Lib.hid hCW
  have HS := Lib.hid (⟨hs1, hs2⟩ : _ ∧ _)
  clear hx hK hKC hC hS hY hJ0 hxW hlen hs1 hs2 hJ hJx hKW hCW hW hb
  refine callsIn_wide.2 ((callsIn_wide (n := 4)).1 ?_)
  refine callsIn_of_wp_marks Try.func21 rfl trivial ?_ rfl
  simp only [Try.ntmps21, List.size_toArray, List.length_cons, List.length_nil, Nat.reduceAdd, Nat.reduceSub, Array.replicate_succ, Array.replicate_zero, List.push_toArray, List.append_toArray, List.nil_append, List.cons_append]
  refine wpIn_wide.2 ?_
  obtain ⟨W0, hW0⟩ : ∃ W0, W0 = W.alloc (.cells #[.func (.yield lp) #[] #[]] 48) := ⟨_, rfl⟩
  have hB0 : Below W.heap.size W W0 := by rw [hW0]; exact (Below.refl _ _).alloc (Nat.le_refl _) _
  have hS0 : W0.cell? ⟨bS, 0, none⟩ = some (.slice A len c) := (hB0.cell (p := ⟨bS, 0, none⟩) (World.block_lt_of_cell? _ _ hSW)).trans hSW
  have hb0 : Blk W0 W.heap.size 48 #[.func (.yield lp) #[] #[]] := by rw [hW0]; exact heap_alloc_new W _
  have hz0 : W0.heap.size = W.heap.size + 1 := by rw [hW0]; simp
  have hS1 := hS0
  rw [hW0] at hS1
  go_wp2_with fail
  rw [← hW0]
  clear hW0 hSW hS1
  refine (inplace_mk _ _ _ _).mono ?_
  rintro e w2 ⟨rfl, rfl⟩
  go_wp2_with fail
  obtain ⟨w2, hw2⟩ : ∃ w2, w2 = W0.alloc (.cells #[.slice A len c] 22) := ⟨_, rfl⟩
  have hB2 : Below W0.heap.size W0 w2 := by rw [hw2]; exact (Below.refl _ _).alloc (Nat.le_refl _) _
  have hb2 : Blk w2 W0.heap.size 22 #[.slice A len c] := by rw [hw2]; exact heap_alloc_new W0 _
  have hz2 : w2.heap.size = W.heap.size + 2 := by rw [hw2]; simp; omega
  have hBW2 : Below W.heap.size W w2 := hB0.trans (hB2.mono (by omega))
  rw [← hw2]
  clear hw2
  have hx2 : Xs w2 K A c l := HX.out.keep (fun _ h => h) fun p hp => hBW2.cell (HKW.out _ hp)
  have hb02 : Blk w2 W.heap.size 48 #[.func (.yield lp) #[] #[]] := hb0.below hB2 (by omega)
  rw [hz0] at hb2
  have HI := Lib.hid (inplace_el (4 - 1) (W.heap.size + 1) K C A c d l w2 hd HS.out.1 HS.out.2 hx2 (fun b h => Nat.lt_of_lt_of_le (HKW.out b h) hBW2.size) HKC.out (fun b h => Nat.lt_of_lt_of_le (HCW.out b h) hBW2.size) (by omega) (by rw [← HL.out]; exact hb2.cell 0))
  have hI0 : PtI J W.heap.size lp w2.heap.size [] w2 := ⟨[], rfl, ow_below HJ.out HJ0.out hBW2, hb02, Nat.le_refl _⟩
  have hOI := Lib.hid (show OwnFrom w2.heap.size (PtI J W.heap.size lp w2.heap.size) from fun s A B row hs hg hr => by
      obtain ⟨p, h1, h2, h3, h4⟩ := hs
      exact ⟨p, h1, (ow_later HJ.out hBW2.size) p A B row h2 hg hr, blk_ow h3 hg hr, Nat.le_trans h4 hg.size⟩)
  have hOX := Lib.hid (show ∀ c, OwnFrom w2.heap.size (PtX Jx c) from fun c s A B row hs hg hr => by
      obtain ⟨h0, p, h1, h2⟩ := hs
      exact ⟨h0, p, h1, (ow_later HJx.out hBW2.size) p A B row h2 hg hr⟩)
  refine (wpIn_wide (n := 4)).1 ?_
  refine range_ow rfl (by omega) (gf := 31) (lb := #[.pointer (some ⟨W.heap.size + 1, 0, none⟩)]) rfl trivial (enters_of Try.func31 (by kernel_rfl) rfl) HI.out KpC.trans
    (fun W l o o' hl ho hc _ => KpC.putObj W l o o' ho hc) (Below.refl _ _) (fun x => rfl)
    (PtI J W.heap.size lp w2.heap.size) (PtX Jx) hOI.out hOX.out hI0
    (fun x a W' => x.Lies W' K ∧ x ∈ partsL l ∧ ∃ b : Nat, w2.heap.size ≤ b ∧ Blk W' b 26 #[.int .i64 x.op, .int .i64 x.pos, .int .i64 x.n, .string ⟨x.name.toArray⟩, .slice x.A x.l.length x.c] ∧
      a = { tmps := #[.func (.yield lp) #[] #[], .pointer (some ⟨bS, 0, none⟩), .pointer (some ⟨W.heap.size, 0, none⟩), .pointer (some ⟨b, 0, none⟩), .slice A len c, .func (.func 31) #[] #[.pointer (some ⟨W.heap.size + 1, 0, none⟩)], .agg #[.int .i64 x.op, .int .i64 x.pos, .int .i64 x.n, .string ⟨x.name.toArray⟩, .slice x.A x.l.length x.c], undef, undef, undef, undef, undef], defers := [] })
    (fun x a' _ A B row hs hg hr => by
      obtain ⟨h1, h0, b, h2, h3, h4⟩ := hs
      exact ⟨lies_ow h1 hg hr, h0, b, h2, blk_ow h3 hg hr, h4⟩)
    ?assign ?body ?done ?stop
  case assign =>
    rintro lp2 pre x W' K' hC' ⟨hel, hmem⟩ hK'
    have hn : w2.heap.size ≤ W'.heap.size := by obtain ⟨_, _, _, _, h⟩ := hC'; exact h
    have hal : ∀ o, Below W'.heap.size W' (W'.alloc o) := fun o => (Below.refl _ _).alloc (Nat.le_refl _) _
    have HIn := Lib.hid (fun o => hOI.out.alloc o hC')
    have HLs : Hid (∀ o, x.Lies (W'.alloc o) K) := Lib.hid fun o => hel.kp (KpC.of_below (C := C) (hal o)) HKC.out
    clear hel hC'
    dsimp only [Ex.val]
    gi_wp2
    exact hK' _ _ (KeepsFrom.of_grownBy (World.grownBy_alloc W' _ none) (fun r e => by cases e)) (KpC.of_below (hal _)) (HIn.out _) ⟨HLs.out _, hmem, W'.heap.size, hn, heap_alloc_new W' _, rfl⟩
  case body =>
    rintro lp2 pre x a' W' hlp hrec ⟨p, he, hJp, hby, hn⟩ ⟨hlx, hmem, b, hb, hbx, rfl⟩ hlen
    have hKW' : ∀ k, K k → k < W'.heap.size := fun k h => by have := HKW.out k h; have := hBW2.size; omega
    obtain ⟨hdx, hsx⟩ := parts_in hmem
    have HCl := Lib.hid (clonex_any d x W'.heap.size W'.drew (by omega) (hsx _ HS.out.2) (Ex.Lies.keep (W := W') (W' := W'.drew) hKW' (fun _ _ => rfl) x hlx) (Nat.le_refl _))
    unfold Ex.val at HCl
    have HYb := Lib.hid hby
    have HJp := Lib.hid hJp
    have HE := Lib.hid he
    have hpl : p.length < cntL l := by have := erL_len he; omega
    have k0 := hby.cell 0
    obtain ⟨⟨b0, b1, b2, b3, b4⟩, -⟩ := blkx hbx
    clear he hJp hby hlx hbx hmem hlen
    gi_wp2
    gi_region_with (first
      | (refine ⟨trivial, callsIn_wide.2 (HCl.out.mono ?_)⟩; rintro e W3 ⟨x', rfl, hlx', hex', hB3⟩; have hB3' : Below W'.heap.size W' W3 := ((Below.refl W'.heap.size W').drew).trans hB3; have hb3 : W3.cell? ⟨W.heap.size, 0, none⟩ = some (.func (.yield lp) #[] #[]) := (HYb.out.below (w' := W3) (B := W'.heap.size) hB3' (by omega)).cell 0; obtain ⟨fn, tmps, assign, body, hy, hRo⟩ := yield_any (m' := 1) (yield_mono (HY.out p x' W3 (ow_below HJ.out HJp.out hB3') (Ex.Lies.keep (fun b hb => hb.2) (fun _ _ => rfl) x' hlx') hpl) (fun e W' h => retYd_of h)))
      | (refine RoundIn.mono (F := Fence.wide.inRound lp2) (n := 1) hRo ?_; rintro e W4 ⟨bb, rfl, hR4⟩))
    all_goals
      have HKf := Lib.hid (kf_below (B := w2.heap.size) hB3')
      have HKc := Lib.hid (KpC.of_below (C := C) hB3')
      have HEr : Hid (erL (p ++ [x']) = erL (pre ++ [x])) := Lib.hid (by rw [erL_append, erL_append, HE.out]; simp [erL, hex'])
      have HY3 : Hid (Blk W3 W.heap.size 48 #[.func (.yield lp) #[] #[]]) := Lib.hid (HYb.out.below hB3' (by omega))
      have hz3 := hB3'.size
      have hnC : ¬ C W.heap.size := fun h => by have := HCW.out _ h; omega
      clear hB3 hB3' hb3 hy hRo hlx'
      cases bb
      · gi_wp2
        rcases hR4.out with ⟨h, _⟩ | ⟨_, hJ4, hf4⟩
        · cases h
        · rw [← hz2]
          exact ⟨HKf.out.trans (kf_mono hf4 (by omega)), rfl, p ++ [x'], HEr.out, hJ4⟩
      · gi_wp2
        rcases hR4.out with ⟨_, hJ4, hk4, hf4⟩ | ⟨h, _⟩
        · rw [← hz2]
          exact ⟨HKf.out.trans (kf_mono hf4 (by omega)), HKc.out.trans hk4, p ++ [x'], HEr.out, hJ4, hk4.blk hnC HY3.out, by have := hk4.size; omega⟩
        · cases h
  case done =>
    rintro D xs W3 hD rfl ⟨p, he, hJp, hby, hn⟩ hK
    have hJ' := (ow_later HJ.out hBW2.size).putObj (.deferred none) hJp hD hK rfl
    gi_wp2
    refine ⟨by simp, .inl ⟨_, _, rfl, run_takeDeferred hK, ?_⟩⟩
    exact ⟨_, results_none rfl _ _ _, ⟨_, rfl⟩, .inl ⟨p, he, hJ'⟩⟩
  case stop =>
    rintro D c2 pre W3 hD hpre ⟨rfl, p, he, hJp⟩ hK
    have hJ' := (ow_later HJx.out hBW2.size).putObj (.deferred none) hJp hD hK rfl
    gi_wp2
    refine ⟨by simp, .inl ⟨_, _, rfl, run_takeDeferred hK, ?_⟩⟩
    exact ⟨_, results_none rfl _ _ _, ⟨_, rfl⟩, .inr ⟨p, ⟨pre, hpre, he⟩, hJ'⟩⟩
end Go.Proofs.Ytndagbmcdpafjaa
