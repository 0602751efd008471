/-
  Copies of expressions: the walks of pendulumref's Expr and Exprs. Conditions: each theorem's own premises.
-/
import Derived.Test.YtacmibkcnmaagaaDoorQTrB
import Derived.Test.YtacmibkcnmaagaaDoorQTxU
import Derived.Deep.QuietTactic
import Derived.BigQuiet
namespace Go.Proofs.YtacmibkcnmaagaaDoor
open Go.RowKit Go.Lib

theorem blkx {w : World} {g : Nat} {t : TypeId} {v0 v1 v2 v3 v4 : Value} (h : Blk w g t #[v0, v1, v2, v3, v4]) :
    (w.cell? ⟨g, 0, none⟩ = some v0 ∧ w.cell? ⟨g, 1, none⟩ = some v1 ∧ w.cell? ⟨g, 2, none⟩ = some v2 ∧ w.cell? ⟨g, 3, none⟩ = some v3 ∧ w.cell? ⟨g, 4, none⟩ = some v4) ∧
    (w.frozen? ⟨g, 0, none⟩ = false ∧ w.frozen? ⟨g, 1, none⟩ = false ∧ w.frozen? ⟨g, 2, none⟩ = false ∧ w.frozen? ⟨g, 3, none⟩ = false ∧ w.frozen? ⟨g, 4, none⟩ = false) :=
  ⟨⟨h.cell 0, h.cell 1, h.cell 2, h.cell 3, h.cell 4⟩, ⟨h.free 0, h.free 1, h.free 2, h.free 3, h.free 4⟩⟩
theorem five_set {w : World} {g : Nat} {t : TypeId} {v0 v1 v2 v3 v4 : Value} (h : Blk w g t #[v0, v1, v2, v3, v4]) (u0 u1 u2 u3 u4 : Value) :
    Blk (((((w.setCell ⟨g, 0, none⟩ u0).setCell ⟨g, 1, none⟩ u1).setCell ⟨g, 2, none⟩ u2).setCell ⟨g, 3, none⟩ u3).setCell ⟨g, 4, none⟩ u4) g t #[u0, u1, u2, u3, u4] :=
  ((((h.set 0 u0).set 1 u1).set 2 u2).set 3 u3).set 4 u4
theorem five_other (w : World) (g : Nat) (u0 u1 u2 u3 u4 : Value) (k : Nat) (hk : k ≠ g) :
    (((((w.setCell ⟨g, 0, none⟩ u0).setCell ⟨g, 1, none⟩ u1).setCell ⟨g, 2, none⟩ u2).setCell ⟨g, 3, none⟩ u3).setCell ⟨g, 4, none⟩ u4).heap[k]? = w.heap[k]? := by
  rw [Below.heap_setCell _ _ _ k hk, Below.heap_setCell _ _ _ k hk, Below.heap_setCell _ _ _ k hk, Below.heap_setCell _ _ _ k hk, Below.heap_setCell _ _ _ k hk]
/-- What a copy of several leaves: the same, in new memory. -/
def RetXs (w : World) (l : List Ex) (e : Ending) (w' : World) : Prop :=
  ∃ A c l', e = .returned (.slice A l.length c) ∧ Xs w' (fun b => w.heap.size ≤ b ∧ b < w'.heap.size) A c l' ∧ erL l' = erL l ∧ Below w.heap.size w w'
/-- What a copy of one leaves. -/
def RetX (w : World) (x : Ex) (e : Ending) (w' : World) : Prop :=
  ∃ x' : Ex, e = .returned x'.val ∧ x'.Lies w' (fun b => w.heap.size ≤ b ∧ b < w'.heap.size) ∧ x'.er = x.er ∧ Below w.heap.size w w'
theorem er_fields {x y : Ex} (h : x.er = y.er) : x.op = y.op ∧ x.pos = y.pos ∧ x.n = y.n ∧ x.name = y.name ∧ erL x.l = erL y.l := by
  obtain ⟨a1, a2, a3, a4, a5, a6, a7⟩ := x
  obtain ⟨b1, b2, b3, b4, b5, b6, b7⟩ := y
  simp only [Ex.er, Ex.mk.injEq] at h
  exact ⟨h.1, h.2.1, h.2.2.1, h.2.2.2.1, h.2.2.2.2.2.2⟩
theorem er_same {x : Ex} {A : Option Addr} {c : Nat} {l : List Ex} (h : erL l = erL x.l) : (Ex.mk x.op x.pos x.n x.name A c l).er = x.er := by
  rw [Ex.er_eq x]
  show Ex.mk _ _ _ _ none 0 (erL l) = _
  rw [h]
theorem erL_len {a b : List Ex} (h : erL a = erL b) : a.length = b.length := by rw [← erL_length a, h, erL_length]
theorem erL_append (a b : List Ex) : erL (a ++ b) = erL a ++ erL b := by rw [erL_map, erL_map, erL_map, List.map_append]
theorem erL_dep (l : List Ex) : depL (erL l) = depL l := by
  induction l with
  | nil => rfl
  | cons a r ih => rw [erL, depL, depL, ih, Ex.er_dep]
theorem erL_cnt (l : List Ex) : cntL (erL l) = cntL l := by
  induction l with
  | nil => rfl
  | cons a r ih => rw [erL, cntL, cntL, ih, Ex.er_cnt]
/-- A row that the call owns, of expressions that lie elsewhere. -/
theorem Ow.xs {w : World} {base : Nat} {v : Value} {l : List Ex} {K : Nat → Prop} (h : Ow LX w base v l) (ha : ∀ x ∈ l, x.Lies w K) (hK : ∀ b, base ≤ b → b < w.heap.size → K b) : ∃ A c, v = .slice A l.length c ∧ Xs w K A c l := by
  obtain ⟨A, c, rfl, hr, h1, h2, h3, h4⟩ := h.rw
  refine ⟨A, c, rfl, ⟨h2, h1, fun hn => ?_, h3⟩, fun b o e j u hu => ?_, ha⟩
  · obtain ⟨ad, rfl, hb, hc⟩ := hr.here (fun e => hn (by rw [e]; rfl))
    obtain ⟨e1, e2, e3⟩ := h4 ad rfl
    exact ⟨ad.block, 0, by rw [← e1], hK _ e2 e3⟩
  · have hl : l ≠ [] := by rintro rfl; simp [Lie.cells] at hu
    obtain ⟨ad, e2, hb, hc⟩ := hr.here hl
    rw [e] at e2
    cases e2
    have := hc j u hu
    rwa [at_add] at this

set_option maxRecDepth 100000 in
set_option maxHeartbeats 1000000 in
theorem rexpr_of (x : Ex) (w : World)
    (H : ∀ W : World, Below w.heap.size w W → Calls Tryd.prog 52 #[.slice x.A x.l.length x.c] W (RetXs W x.l)) : Calls Tryd.prog 53 #[x.val] w (RetX w x) := by
  obtain ⟨X, hX⟩ : ∃ X : ByteArray, X = ⟨x.name.toArray⟩ := ⟨_, rfl⟩
  dsimp only [Ex.val]
  rw [← hX]
  have HX := Lib.hid hX
  obtain ⟨len, hlen⟩ : ∃ len, len = x.l.length := ⟨_, rfl⟩
  rw [← hlen] at H ⊢
  have HL := Lib.hid hlen
  obtain ⟨W0, hW0⟩ : ∃ W0, W0 = (w.alloc (.cells #[.int .i64 x.op, .int .i64 x.pos, .int .i64 x.n, .string X, .slice x.A len x.c] 34)).alloc (.cells #[.int .i64 0, .int .i64 0, .int .i64 0, .string { data := #[] }, .slice none 0 0] 34) := ⟨_, rfl⟩
  have hB0 : Below w.heap.size w W0 := by rw [hW0]; exact ((Below.refl _ _).alloc (Nat.le_refl _) _).alloc (by simp) _
  have hb0 : Blk W0 w.heap.size 34 #[.int .i64 x.op, .int .i64 x.pos, .int .i64 x.n, .string X, .slice x.A len x.c] := by rw [hW0]; exact Blk.alloc (heap_alloc_new w _) _
  have hb1 : Blk W0 (w.heap.size + 1) 34 #[.int .i64 0, .int .i64 0, .int .i64 0, .string { data := #[] }, .slice none 0 0] := by
    have := heap_alloc_new (w.alloc (.cells #[.int .i64 x.op, .int .i64 x.pos, .int .i64 x.n, .string X, .slice x.A len x.c] 34)) (.cells #[.int .i64 0, .int .i64 0, .int .i64 0, .string { data := #[] }, .slice none 0 0] 34)
    rw [World.size_alloc] at this
    rw [hW0]
    exact this
  have hH0 := H W0.drew hB0.drew
  have HH := Lib.hid hH0
  have HB0 := Lib.hid hB0
  have Hb0 := Lib.hid hb0
  have Hb1 := Lib.hid hb1
  have hz0 : W0.heap.size = w.heap.size + 2 := by rw [hW0]; simp
  clear H hH0 hB0 hX hlen
  have k0 := hb0.cell 0
  have k1 := hb0.cell 1
  have k2 := hb0.cell 2
  have k3 := hb0.cell 3
  have k4 := hb0.cell 4
  clear hb0 hb1
  go_enter Tryd.func53, Tryd.ntmps53
  go_wp2_with fail
  rw [← hW0]
  clear hW0
  go_wp2_with fail
  go_region_held3 (fun W => W.cell? ⟨w.heap.size, 0, none⟩ = some (.int .i64 x.op) ∧ W.cell? ⟨w.heap.size, 1, none⟩ = some (.int .i64 x.pos) ∧ W.cell? ⟨w.heap.size, 2, none⟩ = some (.int .i64 x.n) ∧ W.cell? ⟨w.heap.size, 3, none⟩ = some (.string X) ∧ W.cell? ⟨w.heap.size, 4, none⟩ = some (.slice x.A len x.c)) (go_keep)
    (first | (go_at_call 52; refine HH.out.mono ?_; rintro e w2 ⟨A2, c2, l2, rfl, hx2, he2, hB2'⟩; have hB2 : Below W0.heap.size W0 w2 := ((Below.refl W0.heap.size W0).drew).trans hB2'; have hb2 : Blk w2 w.heap.size 34 #[.int .i64 x.op, .int .i64 x.pos, .int .i64 x.n, .string X, .slice x.A len x.c] := Hb0.out.below (w' := w2) (B := W0.heap.size) hB2 (by omega); have hb3 : Blk w2 (w.heap.size + 1) 34 #[.int .i64 0, .int .i64 0, .int .i64 0, .string { data := #[] }, .slice none 0 0] := Hb1.out.below (w' := w2) (B := W0.heap.size) hB2 (by omega); have m0 := hb2.cell 0; have m1 := hb2.cell 1; have m2 := hb2.cell 2; have m3 := hb2.cell 3; have m4 := hb2.cell 4; obtain ⟨⟨q0, q1, q2, q3, q4⟩, r0, r1, r2, r3, r4⟩ := blkx hb3))
  have hF := five_set hb3 (.int .i64 x.op) (.int .i64 x.pos) (.int .i64 x.n) (.string X) (.slice A2 len c2)
  have hO := five_other w2 (w.heap.size + 1) (.int .i64 x.op) (.int .i64 x.pos) (.int .i64 x.n) (.string X) (.slice A2 len c2)
  have hBF : Below w.heap.size w (((((w2.setCell ⟨w.heap.size + 1, 0, none⟩ (.int .i64 x.op)).setCell ⟨w.heap.size + 1, 1, none⟩ (.int .i64 x.pos)).setCell ⟨w.heap.size + 1, 2, none⟩ (.int .i64 x.n)).setCell ⟨w.heap.size + 1, 3, none⟩ (.string X)).setCell ⟨w.heap.size + 1, 4, none⟩ (.slice A2 len c2)) :=
    (((((HB0.out.trans (hB2.mono (by omega))).setCell (p := ⟨w.heap.size + 1, 0, none⟩) (by simp) _).setCell (p := ⟨w.heap.size + 1, 1, none⟩) (by simp) _).setCell (p := ⟨w.heap.size + 1, 2, none⟩) (by simp) _).setCell (p := ⟨w.heap.size + 1, 3, none⟩) (by simp) _).setCell (p := ⟨w.heap.size + 1, 4, none⟩) (by simp) _
  have hll : l2.length = len := by rw [HL.out]; exact erL_len he2
  have hzF : (((((w2.setCell ⟨w.heap.size + 1, 0, none⟩ (.int .i64 x.op)).setCell ⟨w.heap.size + 1, 1, none⟩ (.int .i64 x.pos)).setCell ⟨w.heap.size + 1, 2, none⟩ (.int .i64 x.n)).setCell ⟨w.heap.size + 1, 3, none⟩ (.string X)).setCell ⟨w.heap.size + 1, 4, none⟩ (.slice A2 len c2)).heap.size = w2.heap.size := by simp
  have HHl := Lib.hid hll
  clear hll
  rw [← HL.out]
  generalize (((((w2.setCell ⟨w.heap.size + 1, 0, none⟩ (.int .i64 x.op)).setCell ⟨w.heap.size + 1, 1, none⟩ (.int .i64 x.pos)).setCell ⟨w.heap.size + 1, 2, none⟩ (.int .i64 x.n)).setCell ⟨w.heap.size + 1, 3, none⟩ (.string X)).setCell ⟨w.heap.size + 1, 4, none⟩ (.slice A2 len c2)) = WF at hF hO hBF hzF ⊢
  obtain ⟨⟨d0, d1, d2, d3, d4⟩, -⟩ := blkx hF
  go_wp2
  refine bodyPost_ret (v := .agg #[.int .i64 x.op, .int .i64 x.pos, .int .i64 x.n, .string X, .slice A2 len c2]) (by simp [results, Tryd.results53, go_sem, d0, d1, d2, d3, d4]) rfl ⟨.mk x.op x.pos x.n x.name A2 c2 l2, ?_, ?_, er_same he2, hBF⟩
  · rw [HX.out, ← HHl.out]; rfl
  · refine Xs.lies (hx2.keep (fun b hb => ?_) fun p hp => ?_)
    · have h1 := hb.1
      have h2 := hb.2
      simp only [World.drew] at h1
      exact ⟨by omega, by omega⟩
    · refine World.cell?_of_block (hO _ ?_)
      have h1 := hp.1
      simp only [World.drew] at h1
      omega

/-- The kind of blocks that a row's elements lie in: not the row's own. -/
abbrev Kn (base : Nat) (W : World) (v : Value) : Nat → Prop := fun b => base ≤ b ∧ b < W.heap.size ∧ v.ownBlock ≠ some b
/-- Where the loop of a copy stands. -/
def CpRel (w : World) (l : List Ex) (v i : Value) (wr : World) : Prop :=
  ∃ (k : Nat) (l' : List Ex) (A : Option Addr) (c : Nat), k ≤ l.length ∧ i = .int .i64 (k : Int) ∧ v = .slice A l'.length c ∧ erL l' = erL (l.take k) ∧ Ow LX wr w.heap.size v l' ∧ (∀ x ∈ l', x.Lies wr (Kn w.heap.size wr v)) ∧ Below w.heap.size w wr
/-- What lies elsewhere goes on lying through an append to the row. -/
theorem kn_keep {w1 w' : World} {base : Nat} {v v' : Value} {x : Ex} (hx : x.Lies w1 (Kn base w1 v)) (hs : w1.heap.size < w'.heap.size) (hK : ∀ k, k < w1.heap.size → some k ≠ v.ownBlock → w'.heap[k]? = w1.heap[k]?) (hob : v'.ownBlock = v.ownBlock ∨ v'.ownBlock = some (w1.heap.size + 1)) : x.Lies w' (Kn base w' v') :=
  Ex.Lies.keep (fun _ hb => ⟨hb.1, by have := hb.2.1; omega, fun e => by
    rcases hob with h | h
    · rw [h] at e; exact hb.2.2 e
    · rw [h] at e
      cases e
      have := hb.2.1
      omega⟩) (fun p hp => World.cell?_of_block (hK _ hp.2.1 fun e => hp.2.2 e.symm)) x hx
/-- One more, that lies elsewhere than the row. -/
theorem cp_step {w w1 : World} {base : Nat} {v : Value} {l' : List Ex} (x' : Ex) (hO : Ow LX w1 base v l') (ha : ∀ x ∈ l', x.Lies w1 (Kn base w1 v)) (hx : x'.Lies w1 (Kn base w1 v)) (hB : Below base w w1) (hb : base ≤ w.heap.size) (hle : l'.length < 1099511627776) :
    ∃ A' c' w', (∀ ty, (Builtin.append_ #[32, 32] ty #[v, .slice (some ⟨w1.heap.size, 0, none⟩) 1 1]).run Tryd.prog (w1.alloc (.cells #[.int .i64 x'.op, .int .i64 x'.pos, .int .i64 x'.n, .string ⟨x'.name.toArray⟩, .slice x'.A x'.l.length x'.c] 34)) = .ok (.slice A' (l' ++ [x']).length c') w') ∧ Ow LX w' base (.slice A' (l' ++ [x']).length c') (l' ++ [x']) ∧
      (∀ x ∈ l' ++ [x'], x.Lies w' (Kn base w' (.slice A' (l' ++ [x']).length c'))) ∧ Below base w w' := by
  obtain ⟨v', w', hrun, hO', hB', hs, hK, hob⟩ := append_ow_one2 LXat x' hO hle (Nat.le_trans hb hB.size)
  have hall : ∀ x ∈ l' ++ [x'], x.Lies w' (Kn base w' v') := fun x hm => by
    rcases List.mem_append.1 hm with hm | hm
    · exact kn_keep (ha x hm) hs hK hob
    · simp at hm
      subst hm
      exact kn_keep hx hs hK hob
  obtain ⟨A', c', rfl⟩ : ∃ A c, v' = .slice A (l' ++ [x']).length c := by
    obtain ⟨A, c, h, _⟩ := hO'.rw
    exact ⟨A, c, h⟩
  exact ⟨A', c', w', hrun, hO', hall, hB.trans hB'⟩
theorem lies_kn {w w2 : World} {v : Value} {x : Ex} {lo hi : Nat} (hx : x.Lies w2 (fun b => lo ≤ b ∧ b < hi)) (h1 : w.heap.size ≤ lo) (h2 : hi ≤ w2.heap.size) (hv : ∀ b, v.ownBlock = some b → b < lo) : x.Lies w2 (Kn w.heap.size w2 v) :=
  Ex.Lies.keep (fun b hb => ⟨Nat.le_trans h1 hb.1, Nat.lt_of_lt_of_le hb.2 h2, fun e => by have := hv b e; have := hb.1; omega⟩) (fun _ _ => rfl) x hx
theorem kn_below {w1 w2 : World} {base : Nat} {v : Value} {x : Ex} (hx : x.Lies w1 (Kn base w1 v)) (hB : Below w1.heap.size w1 w2) : x.Lies w2 (Kn base w2 v) :=
  Ex.Lies.keep (fun _ hb => ⟨hb.1, Nat.lt_of_lt_of_le hb.2.1 hB.size, hb.2.2⟩) (fun _ hp => hB.cell hp.2.1) x hx
theorem erL_take (l : List Ex) (k : Nat) (h : k < l.length) : erL (l.take (k + 1)) = erL (l.take k) ++ [l[k].er] := by
  rw [take_succ h, erL_append]
  rfl

set_option maxRecDepth 100000 in
set_option maxHeartbeats 1000000 in
theorem rexprs_any : ∀ (d : Nat) (A : Option Addr) (c : Nat) (l : List Ex) (B : Nat) (w : World), depL l ≤ d → l.length ≤ 100000 → slimL 100000 l = true → Xs w (· < B) A c l → B ≤ w.heap.size → Calls Tryd.prog 52 #[.slice A l.length c] w (RetXs w l)
  | d, A, c, l, B, w, hd, hs1, hs2, hx, hB => by
    have hs2 := slimL_iff.1 hs2
    have IH : ∀ (x : Ex) (W : World), x ∈ l → Below w.heap.size w W → Calls Tryd.prog 53 #[x.val] W (RetX W x) := fun x W hm hb => by
      have hdx := dep_mem hm
      have hde := Ex.dep_eq x
      match d, hd with
      | 0, hd => omega
      | d + 1, hd =>
        obtain ⟨h1, h2⟩ := Ex.slim_in (hs2 x hm)
        exact rexpr_of x W fun W' hW' => rexprs_any d x.A x.c x.l B W' (by omega) h1 (slimL_iff.2 h2) (((hx.all x hm).xs.below (hb.mono hB)).below (hW'.mono (Nat.le_trans hB hb.size))) (Nat.le_trans hB (Nat.le_trans hb.size hW'.size))
    unfold Ex.val at IH
    have IH := Lib.hid IH
    have HX := Lib.hid hx
    obtain ⟨i0, hi, hz0, hz1, hz2⟩ := info_parts (show (Tryd.prog.info? 34).map (fun i => (i.zero, i.size, i.bytes)) = some (some (.agg #[.int .i64 0, .int .i64 0, .int .i64 0, .string { data := #[] }, .slice none 0 0]), 5, 64) by kernel_rfl)
    obtain ⟨len, hlen⟩ : ∃ len, len = l.length := ⟨_, rfl⟩
    rw [← hlen] at hs1 ⊢
    have HL := Lib.hid hlen
    clear hx hs2 hd hlen
    by_cases h0 : len = 0
    · subst h0
      have hl0 : l = [] := List.eq_nil_of_length_eq_zero HL.out.symm
      subst hl0
      clear HL HX IH hi hz0 hz1 hz2
      go_enter Tryd.func52, Tryd.ntmps52
      go_wp2
      go_ret
      exact ⟨none, 0, [], rfl, Xs.nil _ _, rfl, Below.refl _ _⟩
    · have h0' : ((len : Int) == 0) = false := beq_eq_false_iff_ne.2 (by omega)
      go_enter Tryd.func52, Tryd.ntmps52
      go_wp2_with (at_make; refine wpList_make_own _ rfl _ _ 32 rfl w.heap.size 34 i0 (.agg #[.int .i64 0, .int .i64 0, .int .i64 0, .string { data := #[] }, .slice none 0 0]) 5 Tryd.underlying32 hi hz0 hz1 .i64 .i64 _ len rfl rfl rfl ?b1 ?b2 (Nat.le_refl _) ?_)
      case b1 => rw [hz2]; omega
      case b2 => unfold maxLen; omega
      intro w1 hown hgr
      have hB1 : Below w.heap.size w w1 := (Below.refl _ _).grown hgr (Nat.le_refl _) (fun k hk => by cases hk)
      have hO1 : Ow LX w1 w.heap.size (.slice (some ⟨w.heap.size, 0, none⟩) 0 len) [] := hown
      have HO1 := Lib.hid hO1
      clear hown hgr hO1
      go_wp2_with fail
      go_loopw [3, 4] (fun v i wr => CpRel w l v i wr) (fun _ i _ => len - (RowKit.intOf i).toNat)
      case atStart => exact ⟨0, [], _, _, Nat.zero_le _, rfl, rfl, rfl, HO1.out, (fun x hx => by cases hx), hB1⟩
      case round =>
        clear HO1 hB1
        obtain ⟨k, l', A', c', hk, rfl, rfl, he, hO, ha, hb⟩ := hrel
        have hLl := HL.out
        by_cases hp : k < len
        · obtain ⟨b, o, rfl, -⟩ := HX.out.hd.at_ (by omega)
          have hx2 := HX.out.below (hb.mono hB)
          have hp' : k < l.length := by omega
          obtain ⟨c0, c1, c2, c3, c4⟩ := hx2.five hp'
          have HT := Lib.hid (erL_take l k hp')
          have HI := Lib.hid (IH.out l[k] wr (List.getElem_mem hp') hb)
          obtain ⟨x, hx⟩ : ∃ x, x = l[k] := ⟨_, rfl⟩
          rw [← hx] at c0 c1 c2 c3 c4 HT HI
          have hl' : l'.length = k := by rw [erL_len he, List.length_take]; omega
          have HE := Lib.hid he
          have HO := Lib.hid hO
          have HA := Lib.hid ha
          have HB := Lib.hid hb
          clear hx hx2 hp' hLl he hO ha hb
          go_wp2_with fail
          refine HI.out.mono ?_
          rintro e w2 ⟨x', rfl, hlx, hex, hB2⟩
          have hsz := hB2.size
          have hB2w := HB.out.trans (hB2.mono HB.out.size)
          obtain ⟨A3, c6, w3, hrun, hO3, ha3, hB3⟩ := cp_step (w := w) x' (HO.out.below hB2 (Nat.le_refl _)) (fun y hy => kn_below (HA.out y hy) hB2) (lies_kn (w := w) hlx HB.out.size (Nat.le_refl _) fun b hb => (HO.out.block b hb).2) hB2w (Nat.le_refl _) (by omega)
          have HRun := Lib.hid hrun
          have HO3 := Lib.hid hO3
          have HA3 := Lib.hid ha3
          have HB3 := Lib.hid hB3
          have HE3 : Hid (erL (l' ++ [x']) = erL (l.take (k + 1))) := Lib.hid (by rw [erL_append, HT.out, HE.out, ← hex]; rfl)
          clear hrun hO3 ha3 hB3 hlx hex hB2 hB2w c0 c1 c2 c3 c4
          dsimp only [Ex.val]
          obtain ⟨n3, hn3⟩ : ∃ n3, n3 = (l' ++ [x']).length := ⟨_, rfl⟩
          rw [← hn3] at HRun HO3 HA3
          have HN3 := Lib.hid hn3
          clear hn3
          go_wp2_with (at_builtin; refine wpList_append_eq rfl _ _ 32 rfl _ _ (.slice A3 n3 c6) w3 rfl rfl (HRun.out _) ?_)
          go_roundw
          case rel => exact ⟨k + 1, l' ++ [x'], A3, c6, by have := HL.out; omega, by go_num, by rw [HN3.out], HE3.out, HO3.out, HA3.out, HB3.out⟩
          case measure => simp [RowKit.intOf]; omega
        · have HT := Lib.hid (take_all l k (by omega))
          have HE : Hid (erL l' = erL l) := Lib.hid (by rw [he, HT.out])
          have HO := Lib.hid hO
          have HA := Lib.hid ha
          have HB := Lib.hid hb
          clear he hO ha hb
          go_wp2
          go_ret
          obtain ⟨A4, c4, e4, hx4⟩ := HO.out.xs (K := fun b => w.heap.size ≤ b ∧ b < wr.heap.size) (fun x hx => Ex.Lies.keep (fun b hb => ⟨hb.1, hb.2.1⟩) (fun _ _ => rfl) x (HA.out x hx)) (fun b h1 h2 => ⟨h1, h2⟩)
          cases e4
          exact ⟨_, _, l', by rw [erL_len HE.out, ← HL.out]; rfl, hx4, HE.out, HB.out⟩
theorem rexpr_any (d : Nat) (x : Ex) (B : Nat) (w : World) (hd : x.dep ≤ d) (hs : x.slim 100000 = true) (hl : x.Lies w (· < B)) (hB : B ≤ w.heap.size) : Calls Tryd.prog 53 #[x.val] w (RetX w x) := by
  obtain ⟨h1, h2⟩ := Ex.slim_in hs
  have hde := Ex.dep_eq x
  exact rexpr_of x w fun W' hW' => rexprs_any d x.A x.c x.l B W' (by omega) h1 (slimL_iff.2 h2) (hl.xs.below (hW'.mono hB)) (Nat.le_trans hB hW'.size)
end Go.Proofs.YtacmibkcnmaagaaDoor
