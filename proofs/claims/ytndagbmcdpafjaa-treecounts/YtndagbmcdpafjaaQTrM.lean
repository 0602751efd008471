/-
  The walk of tree's Count. Conditions: each theorem's own premises.
-/
import Derived.Test.YtndagbmcdpafjaaQTrL
namespace Go.Proofs.Ytndagbmcdpafjaa
open Go.RowKit Go.Lib Go.Sort Go.Shelf
attribute [local go_sem] Oper.semAt_some

theorem counted_mk (s : ByteArray) (v1 v2 v3 v4 : Value) (w : World) (h1 : ∃ A n c, v1 = .slice A n c) (h2 : ∃ A n c, v2 = .slice A n c) (h3 : ∃ A n c, v3 = .slice A n c) (h4 : ∃ A n c, v4 = .slice A n c) :
    Calls Try.prog 24 #[.agg #[.string s, v1, v2, v3, v4]] w fun e w' => e = .returned (.func (.func 33) #[] #[.pointer (some ⟨w.heap.size, 0, none⟩)]) ∧ w' = w.alloc (.cells #[.string s, v1, v2, v3, v4] 40) := by
  obtain ⟨_, _, _, rfl⟩ := h1
  obtain ⟨_, _, _, rfl⟩ := h2
  obtain ⟨_, _, _, rfl⟩ := h3
  obtain ⟨_, _, _, rfl⟩ := h4
  go_enter Try.func24, Try.ntmps24
  go_wp2
  go_ret
  exact ⟨rfl, rfl⟩

/-- Where the count stands. -/
def CtI (w : World) (b n : Nat) (pre : List Ex) (W : World) : Prop := Below w.heap.size w W ∧ Blk W b 3 #[.int .i64 (pre.length : Int)] ∧ n ≤ W.heap.size
set_option maxRecDepth 100000 in
set_option maxHeartbeats 4000000 in
theorem count_any (s : ByteArray) (A1 A2 A3 : Option Addr) (n1 c1 n2 c2 n3 c3 : Nat) (A : Option Addr) (c d : Nat) (l : List Qx) (w : World) (hf : ∀ x ∈ l, x.fits d) (hl : l.length ≤ 100000) (hx : Qs w (· < w.heap.size) A l) (hN : cntL (allX l) ≤ 1000000) :
    Calls Try.prog 12 #[.agg #[.string s, .slice A1 n1 c1, .slice A2 n2 c2, .slice A3 n3 c3, .slice A l.length c]] w fun e w' => e = .returned (.int .i64 (cntL (allX l) : Int)) ∧ Below w.heap.size w w' := by
  obtain ⟨len, hlen⟩ : ∃ len, len = l.length := ⟨_, rfl⟩
  rw [← hlen]
  have HL := Lib.hid hlen
  have HX := Lib.hid hx
  have HF := Lib.hid hf
  have HLn := Lib.hid hl
  clear hlen hx hf hl
  refine (callsIn_wide (n := 4)).1 ?_
  refine callsIn_of_wp_marks Try.func12 rfl trivial ?_ rfl
  simp only [Try.ntmps12, List.size_toArray, List.length_cons, List.length_nil, Nat.reduceAdd, Nat.reduceSub, Array.replicate_succ, Array.replicate_zero, List.push_toArray, List.append_toArray, List.nil_append, List.cons_append]
  refine wpIn_wide.2 ?_
  go_wp2_with fail
  refine (counted_mk s _ _ _ _ _ ⟨_, _, _, rfl⟩ ⟨_, _, _, rfl⟩ ⟨_, _, _, rfl⟩ ⟨_, _, _, rfl⟩).mono ?_
  rintro e w2 ⟨rfl, rfl⟩
  simp only [World.size_alloc]
  obtain ⟨W2, hW2⟩ : ∃ W2, W2 = (((w.alloc (.cells #[.string s, .slice A1 n1 c1, .slice A2 n2 c2, .slice A3 n3 c3, .slice A len c] 40)).alloc (.cells #[.int .i64 0] 3)).alloc (.cells #[.string s, .slice A1 n1 c1, .slice A2 n2 c2, .slice A3 n3 c3, .slice A len c] 40)) := ⟨_, rfl⟩
  have hB2 : Below w.heap.size w W2 := by rw [hW2]; exact (((Below.refl _ _).alloc (Nat.le_refl _) _).alloc (by simp) _).alloc (by simp; omega) _
  have hbn : Blk W2 (w.heap.size + 1 + 1) 40 #[.string s, .slice A1 n1 c1, .slice A2 n2 c2, .slice A3 n3 c3, .slice A len c] := by rw [hW2]; exact blk_new (by simp)
  have hbc : Blk W2 (w.heap.size + 1) 3 #[.int .i64 0] := by rw [hW2]; exact (blk_new (by simp)).alloc _
  have hz2 : W2.heap.size = w.heap.size + 1 + 1 + 1 := by rw [hW2]; simp
  rw [← hW2]
  clear hW2
  have HI := Lib.hid (counted_el (4 - 1) (w.heap.size + 1 + 1) (· < w.heap.size) (· = w.heap.size + 1) A c d l W2 HF.out HLn.out (HX.out.keepV (fun _ h => h) fun p v hp hv => (hB2.cell hp).trans hv) (fun b hb => by omega) (fun b hb h => by omega) (fun b hb => by omega) (by omega) (by rw [← HL.out]; exact hbn.cell 4))
  have HB2 := Lib.hid hB2
  have hI0 : CtI w (w.heap.size + 1) W2.heap.size [] W2 := ⟨hB2, hbc, Nat.le_refl _⟩
  have hOI := Lib.hid (show OwnFrom W2.heap.size (CtI w (w.heap.size + 1) W2.heap.size) from fun s A B row hs hg hr => ⟨hs.1.grown hg hs.1.size (fun k e => by have := (hr k e).1; omega), blk_ow hs.2.1 hg hr, Nat.le_trans hs.2.2 hg.size⟩)
  clear hbn hB2 hbc
  go_wp2_with fail
  refine (wpIn_wide (n := 4)).1 ?_
  refine range_ow rfl (by omega) (gf := 33) (lb := #[.pointer (some ⟨w.heap.size + 1 + 1, 0, none⟩)]) rfl trivial (enters_of Try.func33 (by kernel_rfl) rfl) HI.out KpC.trans
    (fun W l o o' hl ho hc _ => KpC.putObj W l o o' ho hc) (Below.refl _ _) (fun x => rfl)
    (CtI w (w.heap.size + 1) W2.heap.size) (fun _ _ _ => False) hOI.out (fun _ _ _ _ _ hs _ _ => hs) hI0
    (fun x a _ => a = { tmps := #[.agg #[.string s, .slice A1 n1 c1, .slice A2 n2 c2, .slice A3 n3 c3, .slice A len c], .pointer (some ⟨w.heap.size, 0, none⟩), .int .i64 0, .pointer (some ⟨w.heap.size + 1, 0, none⟩), .agg #[.string s, .slice A1 n1 c1, .slice A2 n2 c2, .slice A3 n3 c3, .slice A len c], .func (.func 33) #[] #[.pointer (some ⟨w.heap.size + 1 + 1, 0, none⟩)], x.val, undef, undef, undef], defers := [] })
    (fun x a' _ _ _ _ hs _ _ => hs)
    ?assign ?body ?done ?stop
  case assign =>
    rintro lp2 pre x W' K' hC' - hK'
    gi_wp2
    exact hK' _ _ (KeepsFrom.refl _ _) (KpC.refl _ _) hC' (by simp)
  case body =>
    rintro lp2 pre x a' W' hlp hrec ⟨hbw, hbc, hn⟩ rfl hlen
    have k0 : W'.cell? ⟨w.heap.size + 1, 0, none⟩ = some (.int .i64 (pre.length : Int)) := hbc.cell 0
    have f0 : W'.frozen? ⟨w.heap.size + 1, 0, none⟩ = false := hbc.free 0
    have HS := Lib.hid (hbc.set 0 (.int .i64 ((pre ++ [x]).length : Int)))
    have HN : Hid ((pre.length : Int) + 1 = ((pre ++ [x]).length : Int)) := Lib.hid (by simp)
    have hpl : pre.length < 1000000 := by omega
    have HBs := Lib.hid (hbw.setCell (p := ⟨w.heap.size + 1, 0, none⟩) (by simp) (.int .i64 ((pre ++ [x]).length : Int)))
    clear hbc hbw
    gi_wp2
    rw [HN.out]
    refine ⟨(KeepsOthers.setCell _ _ _).from _, KpC.setCell _ _ _ rfl, HBs.out, HS.out, by simpa using hn⟩
  case done =>
    rintro D xs W3 hD rfl ⟨hbw, hbc, hn⟩ hK
    have HR := Lib.hid (hOI.out.putObj (.deferred none) ⟨hbw, hbc, hn⟩ hD hK rfl).1
    have k0 : W3.cell? ⟨w.heap.size + 1, 0, none⟩ = _ := hbc.cell 0
    clear hbc hbw
    rw [partsL_length] at k0
    go_wp2
    refine ⟨by simp, .inl ⟨_, _, rfl, run_takeDeferred hK, ?_⟩⟩
    exact ⟨.int .i64 (cntL (allX l) : Int), by simp [results, Try.results12, go_sem], rfl, HR.out⟩
  case stop =>
    rintro D c2 pre W3 hD hpre h hK
    exact h.elim
end Go.Proofs.Ytndagbmcdpafjaa
