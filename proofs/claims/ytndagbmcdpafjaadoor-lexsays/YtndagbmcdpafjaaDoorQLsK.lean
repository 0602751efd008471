/-
  The walk of comes: do the tokens of a text come, and at last the error? Conditions: its own premises.
-/
import Derived.Test.YtndagbmcdpafjaaDoorQLsJ
namespace Go.Proofs.YtndagbmcdpafjaaDoor
open Go.Shelf Go.RowKit Go.Lib
attribute [local go_sem] Oper.semAt_some

def fcOf : Option (Nat × Nat) → Int
  | none => 0
  | some (c, _) => 101 + (c : Int)
def fpOf : Option (Nat × Nat) → Int
  | none => 0
  | some (_, p) => (p : Int)
def faOf : Option (Nat × Nat) → Bool
  | none => false
  | some _ => true
theorem ftV_eq (f : Option (Nat × Nat)) : ftV f = fault (fcOf f) (faOf f) false (fpOf f) 0 := by cases f <;> rfl
theorem kf_below6 {B : Nat} {X Y : World} (h : Below X.heap.size X Y) : KeepsFrom B X Y := ⟨h.size, fun k _ _ h1 _ => (h.block k (Array.getElem?_eq_some_iff.1 h1).1).trans h1⟩
/-- Where comes' loop stands. -/
def CmI (w : World) (vs : Value) (f : Option (Nat × Nat)) (pre : List Ev) (W : World) : Prop := CmC w w.heap.size vs (fcOf f) (fpOf f) (faOf f) (st pre).1 (st pre).2.2.2 W ∧ w.heap.size + 1 + 1 + 1 + 1 + 1 + 1 ≤ W.heap.size

set_option maxRecDepth 100000 in
set_option maxHeartbeats 4000000 in
theorem comes_any (s : ByteArray) (hs : s.size ≤ 4096) (l : List Tk) (f : Option (Nat × Nat)) (hL : LexIs s l f) (hll : l.length ≤ 5000) (A : Option Addr) (c : Nat) (w : World) (base : Nat) (hO : Ow LU w base (.slice A l.length c) l) (ads : List Addr) (er : Nat → Addr) (hS : Sents w ads) (hE : Lerr w er) (hA : ∀ i, i < 21 → ads[i]? = some (er i)) :
    Calls Tryd.prog 11 #[.string s, .slice A l.length c, ftV f] w (RetN w true) := by
  rw [ftV_eq]
  obtain ⟨fc, hfc⟩ : ∃ fc, fc = fcOf f := ⟨_, rfl⟩
  obtain ⟨fp, hfp⟩ : ∃ fp, fp = fpOf f := ⟨_, rfl⟩
  obtain ⟨fa, hfa⟩ : ∃ fa, fa = faOf f := ⟨_, rfl⟩
  rw [← hfc, ← hfp, ← hfa]
  obtain ⟨len, hlen⟩ : ∃ len, len = l.length := ⟨_, rfl⟩
  rw [← hlen]
  have HL := Lib.hid hlen
  have HLx := Lib.hid hL
  have HO := Lib.hid hO
  have HS := Lib.hid hS
  have HE := Lib.hid hE
  have HA := Lib.hid hA
  have HF := Lib.hid (⟨hfc, hfp, hfa⟩ : _ ∧ _ ∧ _)
  have hlen5 : len ≤ 5000 := by omega
  clear hlen hL hO hS hE hA hfc hfp hfa hll
  refine (callsIn_wide (n := 3)).1 ?_
  refine callsIn_of_wp_marks Tryd.func11 rfl trivial ?_ rfl
  simp only [Tryd.ntmps11, List.size_toArray, List.length_cons, List.length_nil, Nat.reduceAdd, Nat.reduceSub, Array.replicate_succ, Array.replicate_zero, List.push_toArray, List.append_toArray, List.nil_append, List.cons_append]
  refine wpIn_wide.2 ?_
  go_wp2_with fail
  refine (tokens_mk s _).mono ?_
  rintro e w5 ⟨rfl, rfl⟩
  go_wp2_with fail
  obtain ⟨W1, hW1⟩ : ∃ W1, W1 = w.alloc (.cells #[.slice A len c] 28) := ⟨_, rfl⟩
  obtain ⟨W2, hW2⟩ : ∃ W2, W2 = W1.alloc (.cells #[.int .i64 fc, .bool fa, .bool false, .int .i64 fp, .int .i64 0] 30) := ⟨_, rfl⟩
  obtain ⟨W3, hW3⟩ : ∃ W3, W3 = W2.alloc (.cells #[.bool false] 4) := ⟨_, rfl⟩
  obtain ⟨W4, hW4⟩ : ∃ W4, W4 = W3.alloc (.cells #[.int .i64 0] 3) := ⟨_, rfl⟩
  obtain ⟨W5, hW5⟩ : ∃ W5, W5 = W4.alloc (.cells #[.bool false] 4) := ⟨_, rfl⟩
  obtain ⟨W6, hW6⟩ : ∃ W6, W6 = W5.alloc (.cells #[.string s] 9) := ⟨_, rfl⟩
  have z1 : W1.heap.size = w.heap.size + 1 := by rw [hW1]; simp
  have z2 : W2.heap.size = w.heap.size + 1 + 1 := by rw [hW2]; simp; omega
  have z3 : W3.heap.size = w.heap.size + 1 + 1 + 1 := by rw [hW3]; simp; omega
  have z4 : W4.heap.size = w.heap.size + 1 + 1 + 1 + 1 := by rw [hW4]; simp; omega
  have z5 : W5.heap.size = w.heap.size + 1 + 1 + 1 + 1 + 1 := by rw [hW5]; simp; omega
  have z6 : W6.heap.size = w.heap.size + 1 + 1 + 1 + 1 + 1 + 1 := by rw [hW6]; simp; omega
  have n1 : Boxed W1 w.heap.size 28 (.slice A len c) := by rw [hW1]; exact Boxed.new w _ _
  have n2 : Blk5 W2 (w.heap.size + 1) fc fp fa := by have : Blk5 W2 W1.heap.size fc fp fa := by rw [hW2]; exact heap_alloc_new W1 _
                                                     rwa [z1] at this
  have n3 : Boxed W3 (w.heap.size + 1 + 1) 4 (.bool false) := by have := Boxed.new W2 4 (.bool false); rw [← hW3, z2] at this; exact this
  have n4 : Boxed W4 (w.heap.size + 1 + 1 + 1) 3 (.int .i64 0) := by have := Boxed.new W3 3 (.int .i64 0); rw [← hW4, z3] at this; exact this
  have n5 : Boxed W5 (w.heap.size + 1 + 1 + 1 + 1) 4 (.bool false) := by have := Boxed.new W4 4 (.bool false); rw [← hW5, z4] at this; exact this
  have n6 : W6.cell? ⟨w.heap.size + 1 + 1 + 1 + 1 + 1, 0, none⟩ = some (.string s) := by have := Boxed.new W5 9 (.string s); rw [← hW6, z5] at this; exact this.cell
  have b0 : Below w.heap.size w W6 := by
    rw [hW6, hW5, hW4, hW3, hW2, hW1]
    exact ((((((Below.refl _ w).alloc (Nat.le_refl _) _).alloc (by simp) _).alloc (by simp; omega) _).alloc (by simp; omega) _).alloc (by simp; omega) _).alloc (by simp; omega) _
  have hC0 : CmI w (.slice A len c) f [] W6 := by
    unfold CmI
    rw [← HF.out.1, ← HF.out.2.1, ← HF.out.2.2]
    refine ⟨⟨?_, ?_, ?_, ?_, ?_, b0⟩, by omega⟩
    · rw [hW6, hW5, hW4, hW3, hW2]; exact ((((n1.alloc _).alloc _).alloc _).alloc _).alloc _
    · rw [hW6, hW5, hW4, hW3]; exact (((n2.alloc _).alloc _).alloc _).alloc _
    · rw [hW6, hW5, hW4]; exact ((n3.alloc _).alloc _).alloc _
    · rw [hW6, hW5]; exact (n4.alloc _).alloc _
    · rw [hW6]; exact n5.alloc _
  rw [← hW1, ← hW2, ← hW3, ← hW4, ← hW5, ← hW6]
  have HC0 := Lib.hid hC0
  have HB0 := Lib.hid b0
  have HE6 := Lib.hid (HE.out.below b0)
  have HZ := Lib.hid z6
  have HST := Lib.hid (tokens_e2 2 (by omega) (w.heap.size + 1 + 1 + 1 + 1 + 1) s hs (fun c => er (cc c)) l f HLx.out W6 (by omega) n6 HE6.out.cc)
  have HOw : Hid (OwnFrom W6.heap.size (CmI w (.slice A len c) f)) := Lib.hid fun pre X Y row h hg hr => ⟨CmC.grown h.1 hg (fun r e => by have := (hr r e).1; have := HZ.out; omega) (Nat.le_refl _), Nat.le_trans h.2 hg.size⟩
  have HGe : Hid (∀ pre W, CmI w (.slice A len c) f pre W → W6.heap.size ≤ W.heap.size) := Lib.hid fun _ _ h => by rw [HZ.out]; exact h.2
  clear n1 n2 n3 n4 n5 n6 z1 z2 z3 z4 z5 z6 hW1 hW2 hW3 hW4 hW5 hW6 hC0 b0
  refine (wpIn_wide (n := 3)).1 ?_
  refine range_e2 rfl (by omega) (gf := 51) (lb := #[.pointer (some ⟨w.heap.size + 1 + 1 + 1 + 1 + 1, 0, none⟩)]) rfl trivial (enters_of Tryd.func51 (by kernel_rfl) rfl) HST.out KeepTok.trans
    (fun W l o o' hl ho hc _ => KeepTok.putObj HE.out o' (Nat.le_trans (by rw [HZ.out]; omega) hl) ho hc) (Below.refl _ _) (fun x => by rw [evV_eq]; rfl)
    (CmI w (.slice A len c) f) (fun c pre _ => False) HOw.out (fun c s A B row hs hg hr => hs) HC0.out
    (fun x a W => evEl (fun c => er (cc c)) x W ∧ ∃ b : Nat, W6.heap.size ≤ b ∧ Blk W b 37 (LT.enc (tokT x)).toArray ∧ a = { tmps := #[.string s, .slice A len c, fault fc fa false fp 0, undef, .pointer (some ⟨w.heap.size, 0, none⟩), .pointer (some ⟨w.heap.size + 1, 0, none⟩), .pointer (some ⟨w.heap.size + 1 + 1, 0, none⟩), .pointer (some ⟨w.heap.size + 1 + 1 + 1, 0, none⟩), .pointer (some ⟨w.heap.size + 1 + 1 + 1 + 1, 0, none⟩), .pointer (some ⟨b, 0, none⟩), errV x, .string s, .func (.func 51) #[] #[.pointer (some ⟨w.heap.size + 1 + 1 + 1 + 1 + 1, 0, none⟩)], tkV (tokT x), errV x, undef, undef, undef, undef, undef, undef, undef, undef, undef, undef, undef, undef, undef, undef, undef, undef, undef, undef, undef, undef, undef, undef, undef, undef, undef, undef, undef, undef, undef, undef, undef, undef, undef, undef, undef, undef, undef, undef, undef, undef, undef, undef, undef, undef, undef, undef, undef, undef, undef], defers := [] })
    (fun x a' _ A B row hs hg hr => by
      obtain ⟨h1, b, h2, h3, h4⟩ := hs
      exact ⟨evEl_own _ _ x () A B row h1 hg hr, b, h2, blk_own h3 hg hr, h4⟩)
    ?assign ?body ?done ?stop
  case assign =>
    rintro lp pre x W K hC hel hK
    have hn : W6.heap.size ≤ W.heap.size := by exact HGe.out pre W hC
    have hal : ∀ o, Below W.heap.size W (W.alloc o) := fun o => (Below.refl _ _).alloc (Nat.le_refl _) _
    have HIn := Lib.hid (fun o => HOw.out.alloc o hC)
    have HLx2 : Hid (∀ o, evEl (fun c => er (cc c)) x (W.alloc o)) := Lib.hid fun o => by
      cases x with
      | tok t => trivial
      | bad c p b => exact (show Blk W b _ _ from hel).alloc o
    clear hC hel
    rw [evV_eq]
    dsimp only [tkV]
    gi_wp2
    exact hK _ _ (KeepsFrom.of_grownBy (World.grownBy_alloc W _ none) (fun r e => by cases e)) (KeepTok.of_below (hal _)) (HIn.out _) ⟨HLx2.out _, W.heap.size, hn, heap_alloc_new W _, rfl⟩
  case body =>
    rintro lp pre x a' W hlp hrec hC ⟨hel, b, hb, hbk, rfl⟩ hsp hlen
    cases x with
    | tok t =>
      obtain ⟨hpre, hget⟩ := came_toks hsp
      obtain ⟨i, hi⟩ : ∃ i, i = pre.length := ⟨_, rfl⟩
      rw [← hi] at hpre hget
      have hil : i < l.length := (List.getElem?_eq_some_iff.1 hget).1
      have hst : st pre = (i, 0, 0, false) := by
        rw [hpre, st_toks, List.length_take]
        rw [show min i l.length = i by omega]
      have hst2 : st (pre ++ [.tok t]) = (i + 1, 0, 0, false) := by rw [st_add, hst]; rfl
      unfold CmI at hC
      rw [hst] at hC
      obtain ⟨hC, hsz⟩ := hC
      have HSt2 := Lib.hid hst2
      obtain ⟨g, cap, hv, hg1, hg2, hcap, hcell⟩ := HO.out.at_ (fun h => by rw [h] at hil; simp at hil)
      obtain ⟨rfl, rfl⟩ : A = some ⟨g, 0, none⟩ ∧ c = cap := by cases hv; exact ⟨rfl, rfl⟩
      have hel2 : l[i] = t := by rw [List.getElem?_eq_getElem hil] at hget; exact Option.some.inj hget
      have hcl := hcell i hil
      rw [hel2] at hcl
      obtain ⟨kind, pos, text, nn⟩ := t
      have r0 : W.cell? ⟨g, i * 4, none⟩ = some (.int .i64 (kind : Int)) := (hC.bel.cell (p := ⟨g, i * 4, none⟩) hg2).trans (hcl 0 _ rfl)
      have r1 : W.cell? ⟨g, i * 4 + 1, none⟩ = some (.int .i64 (pos : Int)) := (hC.bel.cell (p := ⟨g, i * 4 + 1, none⟩) hg2).trans (hcl 1 _ rfl)
      have r2 : W.cell? ⟨g, i * 4 + 2, none⟩ = some (.string ⟨text.toArray⟩) := (hC.bel.cell (p := ⟨g, i * 4 + 2, none⟩) hg2).trans (hcl 2 _ rfl)
      have r3 : W.cell? ⟨g, i * 4 + 3, none⟩ = some (.int .i64 (nn : Int)) := (hC.bel.cell (p := ⟨g, i * 4 + 3, none⟩) hg2).trans (hcl 3 _ rfl)
      dsimp only [tokT, errV, tkV]
      obtain ⟨⟨e0, e1, e2, e3⟩, -⟩ := blk4 (show Blk W b _ #[.int .i64 (kind : Int), .int .i64 (pos : Int), .string ⟨text.toArray⟩, .int .i64 (nn : Int)] from hbk)
      have hce := hC.ce.cell
      have hci := hC.ci.cell
      have hwa := hC.wa.cell
      have hS0 : W.drew.cell? ⟨w.heap.size + 1 + 1 + 1, 0, none⟩ = some (.int .i64 (i : Int)) ∧ W.drew.cell? ⟨w.heap.size, 0, none⟩ = some (.slice (some ⟨g, 0, none⟩) len c) ∧ W.drew.cell? ⟨b, 0, none⟩ = some (.int .i64 (kind : Int)) ∧ W.drew.cell? ⟨b, 1, none⟩ = some (.int .i64 (pos : Int)) ∧ W.drew.cell? ⟨b, 2, none⟩ = some (.string ⟨text.toArray⟩) ∧ W.drew.cell? ⟨b, 3, none⟩ = some (.int .i64 (nn : Int)) ∧ W.drew.cell? ⟨g, i * 4, none⟩ = some (.int .i64 (kind : Int)) ∧ W.drew.cell? ⟨g, i * 4 + 1, none⟩ = some (.int .i64 (pos : Int)) ∧ W.drew.cell? ⟨g, i * 4 + 2, none⟩ = some (.string ⟨text.toArray⟩) ∧ W.drew.cell? ⟨g, i * 4 + 3, none⟩ = some (.int .i64 (nn : Int)) := ⟨hci, hwa, e0, e1, e2, e3, r0, r1, r2, r3⟩
      have hilen : i < len := by rw [HL.out]; exact hil
      have HC := Lib.hid hC
      have HSm := Lib.hid (fun W => sameToken_eq ⟨kind, pos, text, nn⟩ W)
      dsimp only [tkV] at HSm
      have hge : decide ((len : Int) ≤ (i : Int)) = false := decide_eq_false (by omega)
      have hHb := Lib.hid hb
      clear hel hbk hcl hcell hget hpre hsp hlen hv hi hil hst hst2 hC hel2
      gi_wp2
      refine region_round (S := fun W' => W'.cell? ⟨w.heap.size + 1 + 1 + 1, 0, none⟩ = some (.int .i64 (i : Int)) ∧ W'.cell? ⟨w.heap.size, 0, none⟩ = some (.slice (some ⟨g, 0, none⟩) len c) ∧ W'.cell? ⟨b, 0, none⟩ = some (.int .i64 (kind : Int)) ∧ W'.cell? ⟨b, 1, none⟩ = some (.int .i64 (pos : Int)) ∧ W'.cell? ⟨b, 2, none⟩ = some (.string ⟨text.toArray⟩) ∧ W'.cell? ⟨b, 3, none⟩ = some (.int .i64 (nn : Int)) ∧ W'.cell? ⟨g, i * 4, none⟩ = some (.int .i64 (kind : Int)) ∧ W'.cell? ⟨g, i * 4 + 1, none⟩ = some (.int .i64 (pos : Int)) ∧ W'.cell? ⟨g, i * 4 + 2, none⟩ = some (.string ⟨text.toArray⟩) ∧ W'.cell? ⟨g, i * 4 + 3, none⟩ = some (.int .i64 (nn : Int))) (show Tryd.prog.follows .mixedOrders = true by kernel_rfl) (by kernel_rfl) (fun ⟨_, _, h⟩ => h) ?_
      refine wpAnyH_take (i := 0) (v := .int .i64 (i : Int)) rfl (by kernel_rfl) (by kernel_rfl) (by kernel_rfl) (fun _ _ _ h => h) (.inl ⟨rfl, fun W' hS => by obtain ⟨q0, q1, q2, q3, q4, q5, q6, q7, q8, q9⟩ := hS; go_simp⟩) hS0 ?_
      simp only [List.getElem_toArray, List.getElem_cons_zero, Act.put, List.setIfInBounds_toArray, List.set_cons_zero, List.set_cons_succ]
      refine wpAnyH_take (i := 1) (v := .slice (some ⟨g, 0, none⟩) len c) rfl (by kernel_rfl) (by kernel_rfl) (by kernel_rfl) (fun _ _ _ h => h) (.inl ⟨rfl, fun W' hS => by obtain ⟨q0, q1, q2, q3, q4, q5, q6, q7, q8, q9⟩ := hS; go_simp⟩) hS0 ?_
      simp only [List.getElem_toArray, List.getElem_cons_zero, List.getElem_cons_succ, Act.put, List.setIfInBounds_toArray, List.set_cons_zero, List.set_cons_succ]
      refine wpAnyH_take (i := 2) (v := .int .i64 (len : Int)) rfl (by kernel_rfl) (by kernel_rfl) (by kernel_rfl) (fun _ _ _ h => h) (.inl ⟨rfl, fun W' hS => by obtain ⟨q0, q1, q2, q3, q4, q5, q6, q7, q8, q9⟩ := hS; go_simp⟩) hS0 ?_
      simp only [List.getElem_toArray, List.getElem_cons_zero, List.getElem_cons_succ, Act.put, List.setIfInBounds_toArray, List.set_cons_zero, List.set_cons_succ]
      refine wpAnyH_take (i := 3) (v := .bool false) rfl (by kernel_rfl) (by kernel_rfl) (by kernel_rfl) (fun _ _ _ h => h) (.inl ⟨rfl, fun W' hS => by obtain ⟨q0, q1, q2, q3, q4, q5, q6, q7, q8, q9⟩ := hS; go_simp⟩) hS0 ?_
      simp only [List.getElem_toArray, List.getElem_cons_zero, List.getElem_cons_succ, Act.put, List.setIfInBounds_toArray, List.set_cons_zero, List.set_cons_succ]
      refine wpAnyH_take (i := 4) (v := .bool false) rfl (by kernel_rfl) (by kernel_rfl) (by kernel_rfl) (fun _ _ _ h => h) (.inl ⟨rfl, fun W' hS => by obtain ⟨q0, q1, q2, q3, q4, q5, q6, q7, q8, q9⟩ := hS; go_simp⟩) hS0 ?_
      simp only [List.getElem_toArray, List.getElem_cons_zero, List.getElem_cons_succ, Act.put, List.setIfInBounds_toArray, List.set_cons_zero, List.set_cons_succ]
      refine wpAnyH_take (i := 5) (v := .agg #[.int .i64 (kind : Int), .int .i64 (pos : Int), .string ⟨text.toArray⟩, .int .i64 (nn : Int)]) rfl (by kernel_rfl) (by kernel_rfl) (by kernel_rfl) (fun _ _ _ h => h) (.inl ⟨rfl, fun W' hS => by obtain ⟨q0, q1, q2, q3, q4, q5, q6, q7, q8, q9⟩ := hS; go_simp⟩) hS0 ?_
      simp only [List.getElem_toArray, List.getElem_cons_zero, List.getElem_cons_succ, Act.put, List.setIfInBounds_toArray, List.set_cons_zero, List.set_cons_succ]
      refine wpAnyH_take (i := 6) (v := .slice (some ⟨g, 0, none⟩) len c) rfl (by kernel_rfl) (by kernel_rfl) (by kernel_rfl) (fun _ _ _ h => h) (.inl ⟨rfl, fun W' hS => by obtain ⟨q0, q1, q2, q3, q4, q5, q6, q7, q8, q9⟩ := hS; go_simp⟩) hS0 ?_
      simp only [List.getElem_toArray, List.getElem_cons_zero, List.getElem_cons_succ, Act.put, List.setIfInBounds_toArray, List.set_cons_zero, List.set_cons_succ]
      refine wpAnyH_take (i := 7) (v := .int .i64 (i : Int)) rfl (by kernel_rfl) (by kernel_rfl) (by kernel_rfl) (fun _ _ _ h => h) (.inl ⟨rfl, fun W' hS => by obtain ⟨q0, q1, q2, q3, q4, q5, q6, q7, q8, q9⟩ := hS; go_simp⟩) hS0 ?_
      simp only [List.getElem_toArray, List.getElem_cons_zero, List.getElem_cons_succ, Act.put, List.setIfInBounds_toArray, List.set_cons_zero, List.set_cons_succ]
      refine wpAnyH_take (i := 8) (v := .pointer (some ⟨g, i * 4, none⟩)) rfl (by kernel_rfl) (by kernel_rfl) (by kernel_rfl) (fun _ _ _ h => h) (.inl ⟨rfl, fun W' hS => by obtain ⟨q0, q1, q2, q3, q4, q5, q6, q7, q8, q9⟩ := hS; go_simp⟩) hS0 ?_
      simp only [List.getElem_toArray, List.getElem_cons_zero, List.getElem_cons_succ, Act.put, List.setIfInBounds_toArray, List.set_cons_zero, List.set_cons_succ]
      refine wpAnyH_take (i := 9) (v := .agg #[.int .i64 (kind : Int), .int .i64 (pos : Int), .string ⟨text.toArray⟩, .int .i64 (nn : Int)]) rfl (by kernel_rfl) (by kernel_rfl) (by kernel_rfl) (fun _ _ _ h => h) (.inl ⟨rfl, fun W' hS => by obtain ⟨q0, q1, q2, q3, q4, q5, q6, q7, q8, q9⟩ := hS; go_simp⟩) hS0 ?_
      simp only [List.getElem_toArray, List.getElem_cons_zero, List.getElem_cons_succ, Act.put, List.setIfInBounds_toArray, List.set_cons_zero, List.set_cons_succ]
      refine wpAnyH_all (rs := [10]) (by kernel_rfl) (by simp) ?_
      intro i2 hi2
      obtain rfl : i2 = 10 := by simpa using hi2
      refine wpOp_enter (f := 12) (args := #[.agg #[.int .i64 (kind : Int), .int .i64 (pos : Int), .string ⟨text.toArray⟩, .int .i64 (nn : Int)], .agg #[.int .i64 (kind : Int), .int .i64 (pos : Int), .string ⟨text.toArray⟩, .int .i64 (nn : Int)]]) rfl rfl (by go_simp) ?_
      refine (HSm.out _).mono ?_
      rintro e w7 ⟨rfl, hB7'⟩
      have hB7 : Below W.heap.size W w7 := ((Below.refl W.heap.size W).drew).trans hB7'
      refine ⟨_, rfl, ?_⟩
      have cb := fun (p : Addr) (u : Value) (hu : W.cell? p = some u) => (hB7.cell (World.block_lt_of_cell? _ _ hu)).trans hu
      have hS7 : w7.cell? ⟨w.heap.size + 1 + 1 + 1, 0, none⟩ = some (.int .i64 (i : Int)) ∧ w7.cell? ⟨w.heap.size, 0, none⟩ = some (.slice (some ⟨g, 0, none⟩) len c) ∧ w7.cell? ⟨b, 0, none⟩ = some (.int .i64 (kind : Int)) ∧ w7.cell? ⟨b, 1, none⟩ = some (.int .i64 (pos : Int)) ∧ w7.cell? ⟨b, 2, none⟩ = some (.string ⟨text.toArray⟩) ∧ w7.cell? ⟨b, 3, none⟩ = some (.int .i64 (nn : Int)) ∧ w7.cell? ⟨g, i * 4, none⟩ = some (.int .i64 (kind : Int)) ∧ w7.cell? ⟨g, i * 4 + 1, none⟩ = some (.int .i64 (pos : Int)) ∧ w7.cell? ⟨g, i * 4 + 2, none⟩ = some (.string ⟨text.toArray⟩) ∧ w7.cell? ⟨g, i * 4 + 3, none⟩ = some (.int .i64 (nn : Int)) := ⟨cb _ _ hS0.1, cb _ _ hS0.2.1, cb _ _ hS0.2.2.1, cb _ _ hS0.2.2.2.1, cb _ _ hS0.2.2.2.2.1, cb _ _ hS0.2.2.2.2.2.1, cb _ _ hS0.2.2.2.2.2.2.1, cb _ _ hS0.2.2.2.2.2.2.2.1, cb _ _ hS0.2.2.2.2.2.2.2.2.1, cb _ _ hS0.2.2.2.2.2.2.2.2.2⟩
      refine ⟨hS7, ?_⟩
      simp only [List.getElem_toArray, List.getElem_cons_zero, List.getElem_cons_succ, Act.put, List.setIfInBounds_toArray, List.set_cons_zero, List.set_cons_succ]
      refine wpAnyH_take (i := 11) (v := .bool false) rfl (by kernel_rfl) (by kernel_rfl) (by kernel_rfl) (fun _ _ _ h => h) (.inl ⟨rfl, fun W' hS => by obtain ⟨q0, q1, q2, q3, q4, q5, q6, q7, q8, q9⟩ := hS; go_simp⟩) hS7 ?_
      simp only [List.getElem_toArray, List.getElem_cons_zero, List.getElem_cons_succ, Act.put, List.setIfInBounds_toArray, List.set_cons_zero, List.set_cons_succ]
      refine wpAnyH_take (i := 12) (v := .bool false) rfl (by kernel_rfl) (by kernel_rfl) (by kernel_rfl) (fun _ _ _ h => h) (.inl ⟨rfl, fun W' hS => by obtain ⟨q0, q1, q2, q3, q4, q5, q6, q7, q8, q9⟩ := hS; go_simp⟩) hS7 ?_
      simp only [List.getElem_toArray, List.getElem_cons_zero, List.getElem_cons_succ, Act.put, List.setIfInBounds_toArray, List.set_cons_zero, List.set_cons_succ]
      refine wpAnyH_done (by kernel_rfl) ?_ _
      have hC7 := HC.out.below hB7 (Nat.le_refl _)
      have hsz7 := hB7.size
      have hci7 := hC7.ci.cell
      have hcf7 := hC7.ci.frozen
      have HF7 := Lib.hid hC7.setI
      have HKt := Lib.hid ((KeepTok.of_below hB7).trans (KeepTok.setBox HE.out (by omega) hC7.ci (by decide) (by decide) (.int .i64 ((i : Int) + 1))))
      have HKf := Lib.hid ((kf_below6 (B := W6.heap.size) hB7).trans ((KeepsOthers.setCell w7 ⟨w.heap.size + 1 + 1 + 1, 0, none⟩ (.int .i64 ((i : Int) + 1))).from W6.heap.size))
      clear hS0 hS7 cb hB7 hB7' hC7 r0 r1 r2 r3 e0 e1 e2 e3 hce hci hwa
      gi_wp2
      exact ⟨HKf.out, HKt.out, by unfold CmI; rw [HSt2.out]; exact ⟨HF7.out, by rw [World.size_setCell]; omega⟩⟩
    | bad cq pq b2 =>
      obtain ⟨hpre, hf⟩ := came_badx hsp
      have hst : st pre = (l.length, 0, 0, false) := by rw [hpre, st_toks]
      have hst2 : st (pre ++ [.bad cq pq b2]) = (l.length, 101 + (cc cq : Int), (pq : Int), true) := by rw [st_add, hst]; rfl
      unfold CmI at hC
      rw [hst] at hC
      obtain ⟨hC, hsz⟩ := hC
      subst hf
      obtain ⟨h1, h2, h3⟩ := HF.out
      simp only [fcOf, fpOf, faOf] at h1 h2 h3
      have hcc : cc cq = cq := lexIs_code HLx.out
      have hSW := HS.out.later hC.bel
      have HFt := Lib.hid (same_fault (W) (.iface 85 (.pointer (some ⟨b2, 0, none⟩))) fc fp fa (fun W' hW' => by
        have := fault_placed W' ads (cc cq) b2 (er (cc cq)) (pq : Int) (hSW.later hW') (HA.out _ (cc_lt cq)) ((show Blk W b2 _ _ from hel).below hW' (show Blk W b2 _ _ from hel).lt)
        rw [hcc] at this
        rw [h1, h2, h3]
        exact this))
      dsimp only [tokT, errV, tkV]
      simp only [show ((0 : Nat) : Int) = 0 from rfl]
      have hbk2 : Blk W b 37 #[.int .i64 0, .int .i64 0, .string { data := #[] }, .int .i64 0] := hbk
      have hce := hC.ce.cell
      have hci := hC.ci.cell
      rw [← HL.out] at hci
      have hwa := hC.wa.cell
      obtain ⟨⟨k0, k1, k2, k3, k4⟩, -⟩ := blk5 (show Blk5 W (w.heap.size + 1) (101 + (cq : Int)) (pq : Int) true from hC.cf)
      rw [← h1] at k0
      rw [← h2] at k3
      rw [← h3] at k1
      have hfc : (fc == 0) = false := beq_eq_false_iff_ne.2 (by omega)
      have HC := Lib.hid hC
      have HSt2 := Lib.hid hst2
      have Hbk := Lib.hid hbk2
      have hHb := Lib.hid hb
      clear hel hbk hbk2 hpre hsp hlen hst hst2 hC hSW h1 h2 h3
      gi_wp2_with fail
      refine ⟨trivial, callsIn_wide.2 (HFt.out.mono ?_)⟩
      rintro e w7 ⟨rfl, hB7⟩
      have hC7 := HC.out.below hB7 (Nat.le_refl _)
      have hsz7 := hB7.size
      have hb7 := Hbk.out.below hB7 Hbk.out.lt
      have e2 : w7.cell? ⟨b, 2, none⟩ = some (.string { data := #[] }) := hb7.cell 2
      have hce7 := hC7.ce.cell
      have hcef := hC7.ce.frozen
      have HF7 := Lib.hid hC7.setE
      have HKt := Lib.hid ((KeepTok.of_below hB7).trans (KeepTok.setBox HE.out (by omega) hC7.ce (by decide) (by decide) (.bool true)))
      have HKf := Lib.hid ((kf_below6 (B := W6.heap.size) hB7).trans ((KeepsOthers.setCell w7 ⟨w.heap.size + 1 + 1 + 1 + 1, 0, none⟩ (.bool true)).from W6.heap.size))
      clear hB7 hC7 hb7 hce hci hwa k0 k1 k2 k3 k4
      gi_wp2
      exact ⟨HKf.out, HKt.out, by unfold CmI; rw [HSt2.out]; exact ⟨HF7.out, by rw [World.size_setCell]; omega⟩⟩
  case done =>
    rintro D ys W hD hSy hC hK
    obtain ⟨hst1, hst2⟩ : (st ys).1 = l.length ∧ (st ys).2.2.2 = faOf f := by
      cases f with
      | none => rw [show ys = l.map .tok from hSy, st_toks]; exact ⟨rfl, rfl⟩
      | some cp =>
        obtain ⟨b, hb⟩ := hSy
        rw [hb, st_add, st_toks]
        exact ⟨rfl, rfl⟩
    unfold CmI at hC
    obtain ⟨hC, -⟩ := hC
    rw [hst1, hst2, ← HL.out, ← HF.out.1, ← HF.out.2.1, ← HF.out.2.2] at hC
    have hfin : (fa == !(fc == 0)) = true := by
      obtain ⟨h1, _, h3⟩ := HF.out
      rw [h1, h3]
      cases f with
      | none => rfl
      | some cp =>
        have : ((101 : Int) + (cp.1 : Int) == 0) = false := beq_eq_false_iff_ne.2 (by omega)
        simp only [fcOf, faOf, this]
        rfl
    have hci := hC.ci.cell
    have hwa := hC.wa.cell
    have hce := hC.ce.cell
    have hcr := hC.r.cell
    have hcrf := hC.r.frozen
    obtain ⟨⟨k0, k1, k2, k3, k4⟩, -⟩ := blk5 hC.cf
    have hK7 := (KeepsOthers.setCell W ⟨w.heap.size + 1 + 1, 0, none⟩ (.bool true)).same D _ hK rfl
    have HK7 := Lib.hid hK7
    have hD2 : w.heap.size ≤ D := by have := HZ.out; omega
    have HB : Hid (Below w.heap.size w ((W.setCell ⟨w.heap.size + 1 + 1, 0, none⟩ (.bool true)).putObj D (.deferred none))) := Lib.hid ((hC.bel.setCell (p := ⟨w.heap.size + 1 + 1, 0, none⟩) (by show _ ≤ w.heap.size + 1 + 1; omega) _).trans (belowK_b (w := w) (Nat.le_refl _) _ D _ _ hD2 hK7 rfl rfl))
    have HRes : Hid (((W.setCell ⟨w.heap.size + 1 + 1, 0, none⟩ (.bool true)).putObj D (.deferred none)).cell? ⟨w.heap.size + 1 + 1, 0, none⟩ = some (.bool true)) := Lib.hid ((hC.r.set (.bool true)).kept (grownBy_putObj' _ D (.deferred none)) (fun e => by cases e; have := HZ.out; omega)).cell
    have HFin : Hid ((fa == (fc != 0)) = true) := Lib.hid hfin
    clear hC hK hK7 hSy hfin
    gi_wp2
    go_wp2
    rw [HFin.out]
    refine ⟨by simp, .inl ⟨_, _, rfl, run_takeDeferred HK7.out, ?_⟩⟩
    have hres := HRes.out
    exact ⟨.bool true, by simp [results, Tryd.results11, go_sem, hres], rfl, HB.out⟩
  case stop =>
    rintro D c2 pre W hD hpre hx hK
    exact hx.elim
end Go.Proofs.YtndagbmcdpafjaaDoor
