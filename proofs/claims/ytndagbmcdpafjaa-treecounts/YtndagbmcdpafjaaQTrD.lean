/-
  Copies of expressions: the walks of tree's cloneExprs and cloneExpr. Conditions: each theorem's own premises.
-/
import Derived.Test.YtndagbmcdpafjaaQTrC
import Derived.Lib.SliceRun
namespace Go.Proofs.Ytndagbmcdpafjaa
open Go.RowKit Go.Lib

/-- What slices.Clone leaves. -/
def RetCw {α : Type} (L : Lie α) (w : World) (l : List α) (e : Ending) (w' : World) : Prop := ∃ A c, e = .returned (.slice A l.length c) ∧ Ow L w' w.heap.size (.slice A l.length c) l ∧ Below w.heap.size w w'
theorem ow_empty {α : Type} (L : Lie α) (w : World) : Ow L (w.alloc (.cells #[] L.ty)) w.heap.size (.slice (some ⟨w.heap.size, 0, none⟩) 0 0) [] :=
  Ow.of (l := []) (cap := 0) (Nat.le_refl _) (heap_alloc_new w _) (Nat.le_refl _) (Nat.zero_le _) (by simp) (by simp [Lie.cells])
/-- append(an empty slice, others...). -/
theorem append_empty {α : Type} {L : Lie α} {P : Program} {t : TypeId} (H : LieAt P t L) {w : World} {B : Nat} {A : Option Addr} {c : Nat} {l : List α} (hc : Rw L w B A l) (hz : A = none → c = 0) (hB : B ≤ w.heap.size) (hle : l.length ≤ 1099511627776) :
    ∃ A' c' w', (∀ ty, (Builtin.append_ #[t, t] ty #[.slice (some ⟨w.heap.size, 0, none⟩) 0 0, .slice A l.length c]).run P (w.alloc (.cells #[] L.ty)) = .ok (.slice A' l.length c') w') ∧ Ow L w' w.heap.size (.slice A' l.length c') l ∧ Below w.heap.size w w' := by
  obtain ⟨v', w', hrun, hO, hg⟩ := append_ow H (ow_empty L w) (hc.keep (w' := w.alloc (.cells #[] L.ty)) fun p hp => World.cell?_alloc_lt _ _ _ (by omega)) rfl hz (by simpa using hle) (by simp)
  rw [List.nil_append] at hO
  obtain ⟨A', c', rfl⟩ : ∃ A c, v' = .slice A l.length c := by
    obtain ⟨A, c, h, _⟩ := hO.rw
    exact ⟨A, c, h⟩
  exact ⟨A', c', w', hrun, hO, ((Below.refl _ w).alloc (Nat.le_refl _) _).grown hg (by simp) fun k hk => by cases hk; exact Nat.le_refl _⟩

theorem LX.cells_set : ∀ (l : List Ex) (k : Nat) (x : Ex), k < l.length →
    (((((LX.cells l).set (k * 5) (.int .i64 x.op)).set (k * 5 + 1) (.int .i64 x.pos)).set (k * 5 + 2) (.int .i64 x.n)).set (k * 5 + 3) (.string ⟨x.name.toArray⟩)).set (k * 5 + 4) (.slice x.A x.l.length x.c) = LX.cells (l.set k x)
  | y :: r, 0, x, _ => by
    show ((((((LX.enc y ++ LX.cells r).set (0 * 5) _).set (0 * 5 + 1) _).set (0 * 5 + 2) _).set (0 * 5 + 3) _).set (0 * 5 + 4) _) = LX.enc x ++ LX.cells r
    rfl
  | y :: r, k + 1, x, h => by
    have ih := LX.cells_set r k x (by simpa using h)
    show ((((((LX.enc y ++ LX.cells r).set ((k + 1) * 5) _).set ((k + 1) * 5 + 1) _).set ((k + 1) * 5 + 2) _).set ((k + 1) * 5 + 3) _).set ((k + 1) * 5 + 4) _) = LX.enc y ++ LX.cells (r.set k x)
    rw [← ih]
    have e0 : (k + 1) * 5 = k * 5 + 1 + 1 + 1 + 1 + 1 := by omega
    simp only [e0]
    rfl
/-- A store of an expression into a row of the call's own. -/
theorem Ow.put {w : World} {base g n c : Nat} {l : List Ex} (h : Ow LX w base (.slice (some ⟨g, 0, none⟩) n c) l) (k : Nat) (x : Ex) (hk : k < l.length) :
    Ow LX (((((w.setCell ⟨g, k * 5, none⟩ (.int .i64 x.op)).setCell ⟨g, k * 5 + 1, none⟩ (.int .i64 x.pos)).setCell ⟨g, k * 5 + 2, none⟩ (.int .i64 x.n)).setCell ⟨g, k * 5 + 3, none⟩ (.string ⟨x.name.toArray⟩)).setCell ⟨g, k * 5 + 4, none⟩ (.slice x.A x.l.length x.c)) base (.slice (some ⟨g, 0, none⟩) n c) (l.set k x) := by
  rcases h.form with ⟨e, rfl⟩ | ⟨g2, cap, cs, e, hb, hg, h1, h2, h3, h4⟩
  · cases e
  · cases e
    have hF := ((((hg.set (k * 5) (.int .i64 x.op)).set (k * 5 + 1) (.int .i64 x.pos)).set (k * 5 + 2) (.int .i64 x.n)).set (k * 5 + 3) (.string ⟨x.name.toArray⟩)).set (k * 5 + 4) (.slice x.A x.l.length x.c)
    have := Ow.of (L := LX) (l := l.set k x) (cap := c) hb hF (by simpa using h1) h2 (by simpa using h3) (by
      rw [← LX.cells_set l k x hk, ← h4, List.length_set]
      simp only [Array.toList_setIfInBounds, List.take_set])
    rw [List.length_set] at this
    exact this
theorem set_take {l' r : List Ex} {y x : Ex} : (l' ++ y :: r).set l'.length x = l' ++ [x] ++ r := by simp

set_option maxRecDepth 100000 in
theorem cloneX_any (A : Option Addr) (c : Nat) (l : List Ex) (B : Nat) (w : World) (hr : Rw LX w B A l) (hz : A = none → c = 0) (hB : B ≤ w.heap.size) (hle : l.length ≤ 100000) :
    Calls Try.prog 30 #[.slice A l.length c] w (RetCw LX w l) := by
  rcases A with _ | ad
  · have hl0 : l = [] := by
      rcases l with _ | ⟨u, l2⟩
      · rfl
      · obtain ⟨ad, h, _⟩ := hr.here (by simp)
        cases h
    subst hl0
    have hc := hz rfl
    subst hc
    have hq := fun W => Lib.run_eql_slice_nil (P := Try.prog) W 22 _ none 0 0 0 0 Try.underlying22
    simp only [Option.isNone] at hq
    clear hr hz hle
    go_enter Try.func30, Try.ntmps30
    go_wp2
    go_ret
    exact ⟨none, 0, rfl, Ow.nil _ _ _, Below.refl _ _⟩
  · obtain ⟨A', c', w', hrun, hO, hB2⟩ := append_empty LXat hr hz hB (by omega)
    obtain ⟨len, hlen⟩ : ∃ len, len = l.length := ⟨_, rfl⟩
    rw [← hlen] at hrun hO ⊢
    have hq := fun W => Lib.run_eql_slice_nil (P := Try.prog) W 22 _ (some ad) len c 0 0 Try.underlying22
    simp only [Option.isNone] at hq
    have HO := Lib.hid hO
    have HB := Lib.hid hB2
    have HL := Lib.hid hlen
    clear hr hz hO hB2 hlen hle
    go_enter Try.func30, Try.ntmps30
    go_wp2_with (first | (at_builtin; refine wpList_append_eq rfl _ _ 22 rfl _ _ (.slice A' len c') w' rfl rfl (hrun _) ?_) | go_in)
    go_ret
    exact ⟨A', c', by rw [← HL.out]; rfl, by rw [← HL.out]; exact HO.out, HB.out⟩
set_option maxRecDepth 100000 in
set_option maxHeartbeats 1000000 in
theorem clonex_of (x : Ex) (w : World)
    (H : ∀ W : World, Below w.heap.size w W → Calls Try.prog 20 #[.slice x.A x.l.length x.c] W (RetXs W x.l)) : Calls Try.prog 23 #[x.val] w (RetX w x) := by
  obtain ⟨X, hX⟩ : ∃ X : ByteArray, X = ⟨x.name.toArray⟩ := ⟨_, rfl⟩
  dsimp only [Ex.val]
  rw [← hX]
  have HX := Lib.hid hX
  obtain ⟨len, hlen⟩ : ∃ len, len = x.l.length := ⟨_, rfl⟩
  rw [← hlen] at H ⊢
  have HL := Lib.hid hlen
  obtain ⟨W0, hW0⟩ : ∃ W0, W0 = (w.alloc (.cells #[.int .i64 x.op, .int .i64 x.pos, .int .i64 x.n, .string X, .slice x.A len x.c] 26)).alloc (.cells #[.int .i64 0, .int .i64 0, .int .i64 0, .string { data := #[] }, .slice none 0 0] 26) := ⟨_, rfl⟩
  have hB0 : Below w.heap.size w W0 := by rw [hW0]; exact ((Below.refl _ _).alloc (Nat.le_refl _) _).alloc (by simp) _
  have hb0 : Blk W0 w.heap.size 26 #[.int .i64 x.op, .int .i64 x.pos, .int .i64 x.n, .string X, .slice x.A len x.c] := by rw [hW0]; exact Blk.alloc (heap_alloc_new w _) _
  have hb1 : Blk W0 (w.heap.size + 1) 26 #[.int .i64 0, .int .i64 0, .int .i64 0, .string { data := #[] }, .slice none 0 0] := by
    have := heap_alloc_new (w.alloc (.cells #[.int .i64 x.op, .int .i64 x.pos, .int .i64 x.n, .string X, .slice x.A len x.c] 26)) (.cells #[.int .i64 0, .int .i64 0, .int .i64 0, .string { data := #[] }, .slice none 0 0] 26)
    rw [World.size_alloc] at this
    rw [hW0]
    exact this
  have HH := Lib.hid (H W0 hB0)
  have HB0 := Lib.hid hB0
  have Hb0 := Lib.hid hb0
  have Hb1 := Lib.hid hb1
  have hz0 : W0.heap.size = w.heap.size + 2 := by rw [hW0]; simp
  clear H hB0 hX hlen
  obtain ⟨⟨k0, k1, k2, k3, k4⟩, f0, f1, f2, f3, f4⟩ := blkx hb0
  clear hb0 hb1
  go_enter Try.func23, Try.ntmps23
  go_wp2_with fail
  rw [← hW0]
  clear hW0
  go_wp2_with fail
  refine HH.out.mono ?_
  rintro e w2 ⟨A2, c2, l2, rfl, hx2, he2, hB2⟩
  have hb2 : Blk w2 w.heap.size 26 #[.int .i64 x.op, .int .i64 x.pos, .int .i64 x.n, .string X, .slice x.A len x.c] := Hb0.out.below hB2 (by omega)
  have hb3 : Blk w2 (w.heap.size + 1) 26 #[.int .i64 0, .int .i64 0, .int .i64 0, .string { data := #[] }, .slice none 0 0] := Hb1.out.below hB2 (by omega)
  have hll : l2.length = len := by rw [HL.out]; exact erL_len he2
  have hb4 : Blk (w2.setCell ⟨w.heap.size, 4, none⟩ (.slice A2 len c2)) w.heap.size 26 #[.int .i64 x.op, .int .i64 x.pos, .int .i64 x.n, .string X, .slice A2 len c2] := hb2.set 4 _
  have hb5 : Blk (w2.setCell ⟨w.heap.size, 4, none⟩ (.slice A2 len c2)) (w.heap.size + 1) 26 #[.int .i64 0, .int .i64 0, .int .i64 0, .string { data := #[] }, .slice none 0 0] := hb3.far (by simp) _
  have hF := five_set hb5 (.int .i64 x.op) (.int .i64 x.pos) (.int .i64 x.n) (.string X) (.slice A2 len c2)
  have hO := five_other (w2.setCell ⟨w.heap.size, 4, none⟩ (.slice A2 len c2)) (w.heap.size + 1) (.int .i64 x.op) (.int .i64 x.pos) (.int .i64 x.n) (.string X) (.slice A2 len c2)
  have hBF : Below w.heap.size w ((((((w2.setCell ⟨w.heap.size, 4, none⟩ (.slice A2 len c2)).setCell ⟨w.heap.size + 1, 0, none⟩ (.int .i64 x.op)).setCell ⟨w.heap.size + 1, 1, none⟩ (.int .i64 x.pos)).setCell ⟨w.heap.size + 1, 2, none⟩ (.int .i64 x.n)).setCell ⟨w.heap.size + 1, 3, none⟩ (.string X)).setCell ⟨w.heap.size + 1, 4, none⟩ (.slice A2 len c2)) :=
    ((((((HB0.out.trans (hB2.mono (by omega))).setCell (p := ⟨w.heap.size, 4, none⟩) (Nat.le_refl _) _).setCell (p := ⟨w.heap.size + 1, 0, none⟩) (by simp) _).setCell (p := ⟨w.heap.size + 1, 1, none⟩) (by simp) _).setCell (p := ⟨w.heap.size + 1, 2, none⟩) (by simp) _).setCell (p := ⟨w.heap.size + 1, 3, none⟩) (by simp) _).setCell (p := ⟨w.heap.size + 1, 4, none⟩) (by simp) _
  have hzF : ((((((w2.setCell ⟨w.heap.size, 4, none⟩ (.slice A2 len c2)).setCell ⟨w.heap.size + 1, 0, none⟩ (.int .i64 x.op)).setCell ⟨w.heap.size + 1, 1, none⟩ (.int .i64 x.pos)).setCell ⟨w.heap.size + 1, 2, none⟩ (.int .i64 x.n)).setCell ⟨w.heap.size + 1, 3, none⟩ (.string X)).setCell ⟨w.heap.size + 1, 4, none⟩ (.slice A2 len c2)).heap.size = w2.heap.size := by simp
  have HHl := Lib.hid hll
  obtain ⟨WF, hWF⟩ : ∃ WF, WF = ((((((w2.setCell ⟨w.heap.size, 4, none⟩ (.slice A2 len c2)).setCell ⟨w.heap.size + 1, 0, none⟩ (.int .i64 x.op)).setCell ⟨w.heap.size + 1, 1, none⟩ (.int .i64 x.pos)).setCell ⟨w.heap.size + 1, 2, none⟩ (.int .i64 x.n)).setCell ⟨w.heap.size + 1, 3, none⟩ (.string X)).setCell ⟨w.heap.size + 1, 4, none⟩ (.slice A2 len c2)) := ⟨_, rfl⟩
  rw [← hWF] at hF hO hBF hzF
  have HF := Lib.hid hF
  have HO := Lib.hid hO
  have HBF := Lib.hid hBF
  have Hx2 := Lib.hid hx2
  have He2 := Lib.hid he2
  obtain ⟨⟨m0, m1, m2, m3, m4⟩, n0, n1, n2, n3, n4⟩ := blkx hb2
  obtain ⟨⟨q0, q1, q2, q3, q4⟩, r0, r1, r2, r3, r4⟩ := blkx hb5
  obtain ⟨⟨s0, s1, s2, s3, s4⟩, -⟩ := blkx hb4
  rw [← HL.out]
  clear hF hO hBF hx2 he2 hb2 hb3 hb4 hb5 hB2 hll k0 k1 k2 k3 k4 f0 f1 f2 f3 f4
  go_wp2
  rw [← hWF]
  obtain ⟨⟨d0, d1, d2, d3, d4⟩, -⟩ := blkx HF.out
  refine bodyPost_ret (v := .agg #[.int .i64 x.op, .int .i64 x.pos, .int .i64 x.n, .string X, .slice A2 len c2]) (by simp [results, Try.results23, go_sem, d0, d1, d2, d3, d4]) rfl ⟨.mk x.op x.pos x.n x.name A2 c2 l2, ?_, ?_, er_same He2.out, HBF.out⟩
  · rw [HX.out, ← HHl.out]; rfl
  · refine Xs.lies (Hx2.out.keep (fun b hb => ?_) fun p hp => ?_)
    · have h1 := hb.1
      have h2 := hb.2
      exact ⟨by omega, by omega⟩
    · have h1 := hp.1
      refine World.cell?_of_block ((HO.out _ (by omega)).trans (Below.heap_setCell _ _ _ _ ?_))
      show p.block ≠ w.heap.size
      omega

/-- Where cloneExprs' loop stands. -/
def ClRel (w : World) (l : List Ex) (A : Option Addr) (len c : Nat) (i : Value) (wr : World) : Prop :=
  ∃ (k : Nat) (l' : List Ex), k ≤ l.length ∧ i = .int .i64 (k : Int) ∧ l'.length = k ∧ erL l' = erL (l.take k) ∧ Ow LX wr w.heap.size (.slice A len c) (l' ++ l.drop k) ∧ (∀ x ∈ l', x.Lies wr (Kn w.heap.size wr (.slice A len c))) ∧ Below w.heap.size w wr
/-- What lies elsewhere goes on lying through a store into the row. -/
theorem kn_put {w1 w' : World} {base g n c : Nat} {x : Ex} (hx : x.Lies w1 (Kn base w1 (.slice (some ⟨g, 0, none⟩) n c))) (hs : w'.heap.size = w1.heap.size) (hK : ∀ k, k ≠ g → w'.heap[k]? = w1.heap[k]?) : x.Lies w' (Kn base w' (.slice (some ⟨g, 0, none⟩) n c)) :=
  Ex.Lies.keep (fun _ hb => ⟨hb.1, by rw [hs]; exact hb.2.1, hb.2.2⟩) (fun p hp => World.cell?_of_block (hK _ fun e => hp.2.2 (by rw [e]; rfl))) x hx
theorem row_other (w : World) (g a : Nat) (u0 u1 u2 u3 u4 : Value) (k : Nat) (hk : k ≠ g) :
    (((((w.setCell ⟨g, a, none⟩ u0).setCell ⟨g, a + 1, none⟩ u1).setCell ⟨g, a + 2, none⟩ u2).setCell ⟨g, a + 3, none⟩ u3).setCell ⟨g, a + 4, none⟩ u4).heap[k]? = w.heap[k]? := by
  rw [Below.heap_setCell _ _ _ k hk, Below.heap_setCell _ _ _ k hk, Below.heap_setCell _ _ _ k hk, Below.heap_setCell _ _ _ k hk, Below.heap_setCell _ _ _ k hk]
theorem Ow.five {w : World} {base g n c : Nat} {l : List Ex} (h : Ow LX w base (.slice (some ⟨g, 0, none⟩) n c) l) {k : Nat} (hk : k < l.length) :
    (w.cell? ⟨g, k * 5, none⟩ = some (.int .i64 l[k].op) ∧ w.cell? ⟨g, k * 5 + 1, none⟩ = some (.int .i64 l[k].pos) ∧ w.cell? ⟨g, k * 5 + 2, none⟩ = some (.int .i64 l[k].n) ∧
    w.cell? ⟨g, k * 5 + 3, none⟩ = some (.string ⟨l[k].name.toArray⟩) ∧ w.cell? ⟨g, k * 5 + 4, none⟩ = some (.slice l[k].A l[k].l.length l[k].c)) ∧
    (w.frozen? ⟨g, k * 5, none⟩ = false ∧ w.frozen? ⟨g, k * 5 + 1, none⟩ = false ∧ w.frozen? ⟨g, k * 5 + 2, none⟩ = false ∧ w.frozen? ⟨g, k * 5 + 3, none⟩ = false ∧ w.frozen? ⟨g, k * 5 + 4, none⟩ = false) := by
  rcases h.form with ⟨e, rfl⟩ | ⟨g2, cap, cs, e, hb, hg, h1, h2, h3, h4⟩
  · cases e
  · cases e
    have at_ : ∀ j u, j < 5 → (LX.enc l[k])[j]? = some u → w.cell? ⟨g, k * 5 + j, none⟩ = some u := fun j u hj hu => by
      rw [hg.cell]
      have h5 : (LX.cells l)[k * 5 + j]? = (LX.enc l[k])[j]? := LX.cells_at l k hk j hj
      rw [hu, ← h4, List.getElem?_take] at h5
      split at h5
      · simpa using h5
      · cases h5
    exact ⟨⟨at_ 0 _ (by omega) rfl, at_ 1 _ (by omega) rfl, at_ 2 _ (by omega) rfl, at_ 3 _ (by omega) rfl, at_ 4 _ (by omega) rfl⟩, hg.free _, hg.free _, hg.free _, hg.free _, hg.free _⟩

set_option maxRecDepth 100000 in
set_option maxHeartbeats 2000000 in
theorem clonexs_any : ∀ (d : Nat) (A : Option Addr) (c : Nat) (l : List Ex) (B : Nat) (w : World), depL l ≤ d → l.length ≤ 100000 → slimL 100000 l = true → Xs w (· < B) A c l → B ≤ w.heap.size → Calls Try.prog 20 #[.slice A l.length c] w (RetXs w l)
  | d, A, c, l, B, w, hd, hs1, hs2, hx, hB => by
    have hs2 := slimL_iff.1 hs2
    have IH : ∀ (x : Ex) (W : World), x ∈ l → Below w.heap.size w W → Calls Try.prog 23 #[x.val] W (RetX W x) := fun x W hm hb => by
      have hdx := dep_mem hm
      have hde := Ex.dep_eq x
      match d, hd with
      | 0, hd => omega
      | d + 1, hd =>
        obtain ⟨h1, h2⟩ := Ex.slim_in (hs2 x hm)
        exact clonex_of x W fun W' hW' => clonexs_any d x.A x.c x.l B W' (by omega) h1 (slimL_iff.2 h2) (((hx.all x hm).xs.below (hb.mono hB)).below (hW'.mono (Nat.le_trans hB hb.size))) (Nat.le_trans hB (Nat.le_trans hb.size hW'.size))
    unfold Ex.val at IH
    have IH := Lib.hid IH
    have HC := Lib.hid (cloneX_any A c l B w (hx.rw fun b h => h) hx.hd.nil hB (by omega))
    obtain ⟨len, hlen⟩ : ∃ len, len = l.length := ⟨_, rfl⟩
    rw [← hlen] at hs1 HC ⊢
    have HL := Lib.hid hlen
    have HX := Lib.hid hx
    clear hx hs2 hd hlen
    go_enter Try.func20, Try.ntmps20
    go_wp2_with fail
    refine HC.out.mono ?_
    rintro e w1 ⟨A1, c1, rfl, hO1, hB1⟩
    rw [← HL.out] at hO1 ⊢
    have HO1 := Lib.hid hO1
    clear hO1 HC
    go_wp2_with fail
    go_loopw [9] (fun i wr => ClRel w l A1 len c1 i wr) (fun i _ => len - (RowKit.intOf i).toNat)
    case atStart => exact ⟨0, [], Nat.zero_le _, rfl, rfl, rfl, HO1.out, (fun x hx => by cases hx), hB1⟩
    case round =>
      clear HO1 hB1
      obtain ⟨k, l', hk, rfl, hl', he, hO, ha, hb⟩ := hrel
      have hLl := HL.out
      by_cases hp : k < len
      · obtain ⟨g, rfl, hg1, hg2⟩ : ∃ g, A1 = some ⟨g, 0, none⟩ ∧ w.heap.size ≤ g ∧ g < wr.heap.size := by
          rcases hO.form with ⟨_, h0⟩ | ⟨g2, cap, cs, e, hb, hg, _⟩
          · have := congrArg List.length h0
            simp at this
            omega
          · cases e
            exact ⟨g2, rfl, hb, hg.lt⟩
        have hp' : k < l.length := by omega
        have hdr : l.drop k = l[k] :: l.drop (k + 1) := List.drop_eq_getElem_cons hp'
        rw [hdr] at hO
        have hkk : k < (l' ++ l[k] :: l.drop (k + 1)).length := by rw [List.length_append, List.length_cons]; omega
        have hfive := hO.five hkk
        have hgk : (l' ++ l[k] :: l.drop (k + 1))[k] = l[k] := by rw [List.getElem_append_right (by omega)]; simp [hl']
        rw [hgk] at hfive
        obtain ⟨⟨c0, c1', c2, c3, c4⟩, f0, f1, f2, f3, f4⟩ := hfive
        have HT := Lib.hid (erL_take l k hp')
        obtain ⟨W1, hW1⟩ : ∃ W1, W1 = wr.alloc (.cells #[.int .i64 l[k].op, .int .i64 l[k].pos, .int .i64 l[k].n, .string ⟨l[k].name.toArray⟩, .slice l[k].A l[k].l.length l[k].c] 26) := ⟨_, rfl⟩
        have hB01 : Below wr.heap.size wr W1 := by rw [hW1]; exact (Below.refl _ _).alloc (Nat.le_refl _) _
        have HB1 : Hid (Below w.heap.size w W1) := Lib.hid (hb.trans (hB01.mono hb.size))
        have HI := Lib.hid (IH.out l[k] W1 (List.getElem_mem hp') HB1.out)
        have hO1 := hO.below hB01 (Nat.le_refl _)
        have ha1 : ∀ x ∈ l', x.Lies W1 (Kn w.heap.size W1 (.slice (some ⟨g, 0, none⟩) len c1)) := fun x hm => kn_below (ha x hm) hB01
        obtain ⟨x, hx⟩ : ∃ x, x = l[k] := ⟨_, rfl⟩
        rw [← hx] at c0 c1' c2 c3 c4 HT HI hW1 hO1
        have HE := Lib.hid he
        have HO := Lib.hid hO1
        have HA := Lib.hid ha1
        have hg3 : g < W1.heap.size := Nat.lt_of_lt_of_le hg2 hB01.size
        clear hx hp' hLl he hO ha hb hO1 ha1 hdr hkk hgk
        go_wp2_with fail
        rw [← hW1]
        clear hW1
        refine HI.out.mono ?_
        rintro e w2 ⟨x', rfl, hlx, hex, hB2⟩
        have hB2w := HB1.out.trans (hB2.mono HB1.out.size)
        have hO2 := HO.out.below hB2 (Nat.le_refl _)
        have hkk : k < (l' ++ x :: l.drop (k + 1)).length := by rw [List.length_append, List.length_cons]; omega
        have hfive2 := hO2.five hkk
        have hgk2 : (l' ++ x :: l.drop (k + 1))[k] = x := by rw [List.getElem_append_right (by omega)]; simp [hl']
        rw [hgk2] at hfive2
        have hput := hO2.put k x' hkk
        have hst : (l' ++ x :: l.drop (k + 1)).set k x' = (l' ++ [x']) ++ l.drop (k + 1) := by rw [← hl']; exact set_take
        rw [hst] at hput
        obtain ⟨⟨d0, d1, d2, d3, d4⟩, f0, f1, f2, f3, f4⟩ := hfive2
        have hoth := row_other w2 g (k * 5) (.int .i64 x'.op) (.int .i64 x'.pos) (.int .i64 x'.n) (.string ⟨x'.name.toArray⟩) (.slice x'.A x'.l.length x'.c)
        obtain ⟨WF, hWF⟩ : ∃ WF, WF = (((((w2.setCell ⟨g, k * 5, none⟩ (.int .i64 x'.op)).setCell ⟨g, k * 5 + 1, none⟩ (.int .i64 x'.pos)).setCell ⟨g, k * 5 + 2, none⟩ (.int .i64 x'.n)).setCell ⟨g, k * 5 + 3, none⟩ (.string ⟨x'.name.toArray⟩)).setCell ⟨g, k * 5 + 4, none⟩ (.slice x'.A x'.l.length x'.c)) := ⟨_, rfl⟩
        have hzF : WF.heap.size = w2.heap.size := by rw [hWF]; simp
        have HBF : Hid (Below w.heap.size w WF) := Lib.hid (by
          rw [hWF]
          exact ((((hB2w.setCell (p := ⟨g, k * 5, none⟩) hg1 _).setCell (p := ⟨g, k * 5 + 1, none⟩) hg1 _).setCell (p := ⟨g, k * 5 + 2, none⟩) hg1 _).setCell (p := ⟨g, k * 5 + 3, none⟩) hg1 _).setCell (p := ⟨g, k * 5 + 4, none⟩) hg1 _)
        rw [← hWF] at hput hoth
        have HAll : Hid (∀ y ∈ l' ++ [x'], y.Lies WF (Kn w.heap.size WF (.slice (some ⟨g, 0, none⟩) len c1))) := Lib.hid fun y hy => by
          rcases List.mem_append.1 hy with hy | hy
          · exact kn_put (kn_below (HA.out y hy) hB2) hzF hoth
          · simp at hy
            subst hy
            exact kn_put (lies_kn (w := w) hlx HB1.out.size (Nat.le_refl _) fun b hb => by cases hb; exact hg3) hzF hoth
        have HE3 : Hid (erL (l' ++ [x']) = erL (l.take (k + 1))) := Lib.hid (by rw [erL_append, HT.out, HE.out, ← hex]; rfl)
        have HPut := Lib.hid hput
        have HLn : Hid ((l' ++ [x']).length = k + 1) := Lib.hid (by rw [List.length_append, hl']; rfl)
        clear hput hoth hlx hex hB2 hB2w hO2 hst c0 c1' c2 c3 c4 hgk2 hkk
        dsimp only [Ex.val]
        go_wp2
        rw [← hWF]
        go_roundw
        case rel => exact ⟨k + 1, l' ++ [x'], by have := HL.out; omega, by go_num, HLn.out, HE3.out, HPut.out, HAll.out, HBF.out⟩
        case measure => simp [RowKit.intOf]; omega
      · have HT := Lib.hid (take_all l k (by omega))
        have HE : Hid (erL l' = erL l) := Lib.hid (by rw [he, HT.out])
        have hO' : Ow LX wr w.heap.size (.slice A1 len c1) l' := by
          have : l.drop k = [] := List.drop_eq_nil_of_le (by omega)
          rw [this, List.append_nil] at hO
          exact hO
        have HO := Lib.hid hO'
        have HA := Lib.hid ha
        have HB := Lib.hid hb
        clear he hO ha hb hO'
        go_wp2
        go_ret
        obtain ⟨A4, c4, e4, hx4⟩ := HO.out.xs (K := fun b => w.heap.size ≤ b ∧ b < wr.heap.size) (fun x hx => Ex.Lies.keep (fun _ hb => ⟨hb.1, hb.2.1⟩) (fun _ _ => rfl) x (HA.out x hx)) (fun b h1 h2 => ⟨h1, h2⟩)
        cases e4
        exact ⟨_, _, l', by rw [← HL.out]; rfl, hx4, HE.out, HB.out⟩
theorem clonex_any (d : Nat) (x : Ex) (B : Nat) (w : World) (hd : x.dep ≤ d) (hs : x.slim 100000 = true) (hl : x.Lies w (· < B)) (hB : B ≤ w.heap.size) : Calls Try.prog 23 #[x.val] w (RetX w x) := by
  obtain ⟨h1, h2⟩ := Ex.slim_in hs
  have hde := Ex.dep_eq x
  exact clonex_of x w fun W' hW' => clonexs_any d x.A x.c x.l B W' (by omega) h1 (slimL_iff.2 h2) (hl.xs.below (hW'.mono hB)) (Nat.le_trans hB hW'.size)
end Go.Proofs.Ytndagbmcdpafjaa
