/-
  Words for the loop of a store's write. Conditions: none.
-/
import Derived.Test.YtmpklljiddggpaaGreatDoorQJoX
import Derived.Test.YtmpklljiddggpaaGreatDoorQDkFe
import Derived.Test.YtmpklljiddggpaaGreatDoorQJoN
import Derived.Test.YtmpklljiddggpaaGreatDoorQJoJ
namespace Go.Proofs.YtmpklljiddggpaaGreatDoor
open Go.Shelf Go.RowKit Go.Lib Go.Sort

/-- The i-th part of bytes. -/
def partB (b : List UInt8) (i : Nat) : List UInt8 := (b.drop (i * 128)).take 128
theorem partB_range (b : List UInt8) : (List.range ((b.length + 127) / 128)).map (partB b) = chunks b := rfl
theorem partB_length (b : List UInt8) (i : Nat) : (partB b i).length = min 128 (b.length - i * 128) := by simp [partB]
theorem partB_le (b : List UInt8) (i : Nat) : (partB b i).length ≤ 128 := by rw [partB_length]; omega
theorem part_str {W : World} {base c : Nat} {A : Option Addr} {b : List UInt8} (h : OwnB W base (.slice A b.length c) b) (rw : Nat) (hrw : ∀ g, A = some ⟨g, 0, none⟩ → g = rw) (i : Nat) : Str W W.heap.size (some ⟨rw, i * 128, none⟩) (partB b i) := by
  refine ⟨fun hn => ⟨_, rfl, ?_, fun j u hu => ?_⟩⟩
  all_goals
    have hl : i * 128 < b.length := by
      rcases Nat.lt_or_ge (i * 128) b.length with h | h
      · exact h
      · exact absurd (by unfold partB; rw [List.drop_eq_nil_of_le h]; rfl) hn
    rcases h.2 with ⟨hv, h0⟩ | ⟨g, cap, cur, hv, _, hg, _⟩
    · omega
    · simp only [Value.slice.injEq] at hv
      obtain ⟨rfl, _, rfl⟩ := hv
      obtain rfl := hrw g rfl
      first
        | exact (Array.getElem?_eq_some_iff.1 hg).1
        | (have hu' : b[i * 128 + j]? = some u := by
             unfold partB at hu
             rw [List.getElem?_take] at hu
             split at hu
             · rwa [List.getElem?_drop] at hu
             · cases hu
           have this : W.cell? ((⟨g, 0, none⟩ : Addr).add (i * 128 + j)) = some (.int .u8 (u.toNat : Int)) := World.ownsRow.cells h (g := g) rfl (i * 128 + j) (byt u) (by rw [List.getElem?_map, hu']; rfl)
           rw [lit_add] at this
           unfold Addr.add
           split
           · subst_vars; simpa using this
           · exact this)

theorem dWrite_kept (s : DS) (i : Nat) (b : List UInt8) : (dWrite s i b).2.kept = s.kept := by unfold dWrite; split <;> rfl
theorem powA_in {a : Int} (h : -9223372036854775808 ≤ a ∧ a ≤ 9223372036854775807) : -9223372036854775808 ≤ powA a ∧ powA a ≤ 9223372036854775807 := by unfold powA; split <;> omega
structure Bnd (s0 : DS) (k : Nat) (s : DS) : Prop where
  kept : s.kept.length = s0.kept.length
  lo : s0.calls ≤ s.calls
  hi : s.calls ≤ s0.calls + k
  arm : -9223372036854775808 ≤ s.armed ∧ s.armed ≤ 9223372036854775807
theorem Bnd.write {s0 s : DS} {k : Nat} (h : Bnd s0 k s) (i : Nat) (b : List UInt8) : Bnd s0 (k + 1) (dWrite s i b).2 := by
  have h1 := h.lo
  have h2 := h.hi
  unfold dWrite
  split
  · exact ⟨h.kept, h.lo, by show s.calls ≤ _; omega, powA_in h.arm⟩
  · exact ⟨h.kept, by show _ ≤ s.calls + 1; omega, by show s.calls + 1 ≤ _; omega, powA_in h.arm⟩
theorem Bnd.flush {s0 s : DS} {k : Nat} (h : Bnd s0 k s) : Bnd s0 (k + 1) (dFlush s).2 := by
  have h1 := h.lo
  have h2 := h.hi
  unfold dFlush
  split
  · exact ⟨h.kept, h.lo, by show s.calls ≤ _; omega, powA_in h.arm⟩
  · exact ⟨by show (flushK s).length = _; rw [← h.kept]; simp [flushK], by show _ ≤ s.calls + 1; omega, by show s.calls + 1 ≤ _; omega, powA_in h.arm⟩
theorem Bnd.more {s0 s : DS} {k k' : Nat} (h : Bnd s0 k s) (hk : k ≤ k') : Bnd s0 k' s := ⟨h.kept, h.lo, by have := h.hi; omega, h.arm⟩
theorem bnd_parts {s0 : DS} (ha : -9223372036854775808 ≤ s0.armed ∧ s0.armed ≤ 9223372036854775807) (i : Nat) : ∀ ps : List (List UInt8), Bnd s0 ps.length (dParts s0 i ps).2 := by
  intro ps
  suffices ∀ n (ps : List (List UInt8)), ps.length = n → Bnd s0 n (dParts s0 i ps).2 from this _ ps rfl
  intro n
  induction n with
  | zero => intro ps hl; obtain rfl := List.eq_nil_of_length_eq_zero hl; exact ⟨rfl, Int.le_refl _, by show s0.calls ≤ _; omega, ha⟩
  | succ n ih =>
    intro ps hl
    obtain ⟨q, x, rfl⟩ : ∃ q x, ps = q ++ [x] := ⟨ps.dropLast, ps.getLast (by rintro rfl; simp at hl), (List.dropLast_concat_getLast _).symm⟩
    have hq : q.length = n := by simpa using hl
    rw [dParts_snoc]
    unfold dThen
    split
    · exact (ih q hq).write _ _
    · exact (ih q hq).more (by omega)

theorem dParts_fail (s : DS) (i : Nat) (a : List (List UInt8)) (h : (dParts s i a).1 = false) : ∀ b, dParts s i (a ++ b) = dParts s i a := by
  intro b
  suffices ∀ n (b : List (List UInt8)), b.length = n → dParts s i (a ++ b) = dParts s i a from this _ b rfl
  intro n
  induction n with
  | zero => intro b hl; obtain rfl := List.eq_nil_of_length_eq_zero hl; simp
  | succ n ih =>
    intro b hl
    obtain ⟨q, x, rfl⟩ : ∃ q x, b = q ++ [x] := ⟨b.dropLast, b.getLast (by rintro rfl; simp at hl), (List.dropLast_concat_getLast _).symm⟩
    rw [← List.append_assoc, dParts_snoc, ih q (by simpa using hl)]
    unfold dThen
    rw [h]
    rfl
theorem parts_pre {b : List UInt8} {pre : List Nat} (h1 : pre.length ≤ (b.length + 127) / 128) (h2 : pre = List.range pre.length) : ∃ r, chunks b = pre.map (partB b) ++ r := by
  refine ⟨((List.range ((b.length + 127) / 128)).drop pre.length).map (partB b), ?_⟩
  rw [← partB_range, ← List.map_append]
  congr 1
  conv => lhs; rw [← List.take_append_drop pre.length (List.range ((b.length + 127) / 128))]
  congr 1
  rw [List.take_range, Nat.min_eq_left h1, ← h2]
theorem keepsFrom_fr {S : List Nat} {B : Nat} {W W' : World} (h : Fr S W W') (hS : ∀ x ∈ S, x < B) : KeepsFrom B W W' :=
  ⟨h.size, fun k o hB hk _ => (h.block k (Array.getElem?_eq_some_iff.1 hk).1 (fun hx => by have := hS k hx; omega)).trans hk⟩
theorem keepB_fr {S K : List Nat} {W W' : World} (h : Fr S W W') (hK : ∀ k ∈ K, k < W.heap.size ∧ k ∉ S) : KeepB K W W' := fun k hk => h.block k (hK k hk).1 (hK k hk).2
theorem wpOp_enter {P : Program} {ops : Array Oper} {Q : Exit → Act → World → Prop} {i : Nat} {K : Act → World → Prop} {a : Act} {w : World} {o : Oper} (hi : ops[i]? = some o) (hw : Region.wanted o (yielded ops a.tmps) = true) {f : FuncId} {args : Array Value} (he : (execOp a.eval o).run P w = .ok (.enter f args) w)
    (h : Calls P f args w fun e w'' => ∃ v, e = .returned v ∧ K (a.put o.dst v) w'') : wpOp P ops Q i K a w := by
  unfold wpOp
  simp only [hi, hw, if_true]
  refine .inl ?_
  unfold Oper.wp
  rw [he]
  refine Calls.mono h ?_
  rintro e w'' ⟨v, rfl, hK⟩
  exact hK

theorem Dk.cell_ne {w : World} {g f m : Nat} {s : DS} (h : Dk w g f m s) {b o : Nat} {v : Value} (hc : w.cell? ⟨b, o, none⟩ = some v) : b ≠ m := by
  obtain ⟨es, clock, hb, _⟩ := h.map
  rintro rfl
  simp [World.cell?, hb] at hc
theorem Dk.errs {w w' : World} {g f m : Nat} {s : DS} {aR aC aF aM : Addr} (h : Dk w g f m s) (hE : Es w aR aC aF aM) (hlow : 1 < g ∧ 3 < g ∧ 2 < g ∧ 0 < g) (k : Fr [g, m] w w') : Es w' aR aC aF aM :=
  hE.fr k (by
    have h1 := h.cell_ne hE.r
    have h2 := h.cell_ne hE.c
    have h3 := h.cell_ne hE.f
    have h4 := h.cell_ne hE.m
    simp
    omega)
/-- What a store's write leaves. -/
def RetWr (w : World) (g f m sb : Nat) (h h' : Hd) (v vn : Value) (aC : Addr) (x : Bool × DS) (e : Ending) (w' : World) : Prop :=
  ∃ m', (m' = m ∨ w.heap.size ≤ m') ∧ Dk w' g f m' x.2 ∧ Fr [g, f, m, sb] w w' ∧ ((x.1 = true ∧ e = .returned .nilIface ∧ StAt w' sb g h' vn) ∨ (x.1 = false ∧ e = .returned (.iface 190 (.pointer (some aC))) ∧ StAt w' sb g h v))
theorem RetWr.of_ok {w w' : World} {g f m sb : Nat} {h0 h h' : Hd} {v0 v vn : Value} {aC : Addr} {x : Bool × DS} {e : Ending} (H : RetWr w g f m sb h0 h' v0 vn aC x e w') (hx : x.1 = true) : RetWr w g f m sb h h' v vn aC x e w' := by
  obtain ⟨m', h1, h2, h3, h4 | h4⟩ := H
  · exact ⟨m', h1, h2, h3, .inl h4⟩
  · rw [hx] at h4
    cases h4.1
/-- The return of a store's write: the result is laid down, the loop's own block is closed. -/
theorem wr_end {w W : World} {g f m m' sb D : Nat} {h h' : Hd} {v vn u : Value} {aC : Addr} {x : Bool × DS} {s : DS} {e : Value} (hbr : Blk W (w.heap.size + 2) 34 #[u]) (hst : StAt W sb g h v) (hD : Dk W g f m' s) (hF : Fr [g, f, m, sb] w W) (hK : W.heap[D]? = some (.deferred (some [])))
    (h3 : D ≠ m') (h4 : D ≠ sb) (h5 : w.heap.size + 2 < D) (h7 : g < w.heap.size ∧ f < w.heap.size ∧ sb < w.heap.size ∧ m' ≠ w.heap.size + 2) (hm : m' = m ∨ W.heap.size ≤ m' ∨ w.heap.size ≤ m') (hx : (x.1 = true ∧ e = .nilIface ∧ h' = h ∧ vn = v) ∨ (x.1 = false ∧ e = .iface 190 (.pointer (some aC)))) (hs : x.2 = s) :
    (W.setCell ⟨w.heap.size + 1 + 1, 0, none⟩ e).heap[D]? = some (.deferred (some [])) ∧ ((W.setCell ⟨w.heap.size + 1 + 1, 0, none⟩ e).putObj D (.deferred none)).cell? ⟨w.heap.size + 1 + 1, 0, none⟩ = some e ∧ RetWr w g f m sb h h' v vn aC x (.returned e) ((W.setCell ⟨w.heap.size + 1 + 1, 0, none⟩ e).putObj D (.deferred none)) := by
  have hF1 : Fr [w.heap.size + 2] W (W.setCell ⟨w.heap.size + 1 + 1, 0, none⟩ e) := (Fr.refl _ W).set (.inl (by simp)) _
  have hK1 := (hF1.block D (Array.getElem?_eq_some_iff.1 hK).1 (by simp; omega)).trans hK
  have hF2 : Fr [D] (W.setCell ⟨w.heap.size + 1 + 1, 0, none⟩ e) ((W.setCell ⟨w.heap.size + 1 + 1, 0, none⟩ e).putObj D (.deferred none)) := (Fr.refl _ _).grown (grownBy_putObj' _ D _) (by simp)
  have hb2 := (hbr.set 0 e).fr hF2 (by simp; omega)
  have hst2 : StAt ((W.setCell ⟨w.heap.size + 1 + 1, 0, none⟩ e).putObj D (.deferred none)) sb g h v := Blk.fr (Blk.fr hst hF1 (by simp; omega)) hF2 (by simp; omega)
  have hD2 := (hD.fr hF1 (by simp; omega) (by simp; omega) (by simp; omega)).fr hF2 (by simp; omega) (by simp; omega) (by simp; omega)
  have hsz := hF.size
  have hFr : Fr [g, f, m, sb] w ((W.setCell ⟨w.heap.size + 1 + 1, 0, none⟩ e).putObj D (.deferred none)) := (hF.trans hF1 (by simp)).trans hF2 (by simp; omega)
  refine ⟨hK1, hb2.cell 0, m', by omega, by rw [hs]; exact hD2, hFr, ?_⟩
  rcases hx with ⟨a1, rfl, rfl, rfl⟩ | ⟨a1, rfl⟩
  · exact .inl ⟨a1, rfl, hst2⟩
  · exact .inr ⟨a1, rfl, hst2⟩
/-- A disk write, whether there is power or not. -/
theorem dwrite_any (g f m : Nat) (s : DS) (i : Nat) (B : Nat) (A : Option Addr) (c : Nat) (l : List UInt8) (w : World) (aR aC aF aM : Addr) (hD : Dk w g f m s) (hE : Es w aR aC aF aM) (hlow : 1 < g ∧ 3 < g ∧ 2 < g ∧ 0 < g) (hi : i < s.kept.length) (hl : l.length ≤ 128)
    (hs : Str w B A l) (hB : B ≤ w.heap.size) (hg : ∀ ad, A = some ad → ad.block < B → ad.block ≠ g) (ha : -9223372036854775808 ≤ s.armed ∧ s.armed ≤ 9223372036854775807) (hc : 0 ≤ s.calls ∧ s.calls < 4611686018427387904) :
    Calls Tryz.prog 51 #[.pointer (some ⟨g, 0, none⟩), .int .i64 (i : Int), .slice A l.length c] w fun e w' => e = .returned (if (dWrite s i l).1 then .nilIface else .iface 190 (.pointer (some aC))) ∧ Dk w' g f m (dWrite s i l).2 ∧ Fr [g, m] w w' := by
  cases hp : powN s.armed s.down
  · refine (write_ok g f m s i B A c l w hD hp ⟨by omega, by omega⟩ hl hs hB hg ha hc).mono ?_
    rintro e w' ⟨rfl, h1, h2⟩
    have hw : dWrite s i l = (true, { s with pend := insP (i : Int) l s.pend, calls := s.calls + 1, armed := powA s.armed, down := false }) := by unfold dWrite; rw [hp]; rfl
    rw [hw]
    exact ⟨rfl, h1, h2⟩
  · refine (write_err g f m s i A c l.length w aR aC aF aM hD hE hlow ha (.inl hp)).mono ?_
    rintro e w' ⟨rfl, h1, h2⟩
    have hw : dWrite s i l = (false, { s with armed := powA s.armed, down := true }) := by unfold dWrite; rw [hp]; rfl
    rw [hw, hp] at *
    exact ⟨rfl, h1, h2.more (by simp)⟩
/-- A flush, whether there is power or not. -/
theorem dflush_any (g f m : Nat) (s : DS) (w : World) (aR aC aF aM : Addr) (hD : Dk w g f m s) (hE : Es w aR aC aF aM) (hlow : 1 < g ∧ 3 < g ∧ 2 < g ∧ 0 < g) (ha : -9223372036854775808 ≤ s.armed ∧ s.armed ≤ 9223372036854775807) (hc : 0 ≤ s.calls ∧ s.calls < 4611686018427387904) :
    Calls Tryz.prog 53 #[.pointer (some ⟨g, 0, none⟩)] w fun e w' => e = .returned (if (dFlush s).1 then .nilIface else .iface 190 (.pointer (some aC))) ∧ ∃ m', (m' = m ∨ w.heap.size ≤ m') ∧ Dk w' g f m' (dFlush s).2 ∧ Fr [g, f] w w' := by
  cases hp : powN s.armed s.down
  · refine (flush_ok g f m s w hD hp ha hc).mono ?_
    rintro e w' ⟨rfl, m', h1, h2, h3⟩
    have hw : dFlush s = (true, flushD s) := by unfold dFlush; rw [hp]; rfl
    rw [hw]
    exact ⟨rfl, m', h1, h2, h3⟩
  · refine (flush_err g f m s w aR aC aF aM hD hE hlow ha hp).mono ?_
    rintro e w' ⟨rfl, h1, h2⟩
    have hw : dFlush s = (false, { s with armed := powA s.armed, down := true }) := by unfold dFlush; rw [hp]; rfl
    rw [hw, hp] at *
    exact ⟨rfl, m, .inl rfl, h1, h2.more (by simp)⟩
/-- The head, written behind its encoding. -/
theorem wr_head {W7 w8 : World} {g f m6 n8 c8 n : Nat} {s2 : DS} {A8 : Option Addr} {hd : List UInt8} {aR aC aF aM : Addr} (hD : Dk W7 g f m6 s2) (hE : Es W7 aR aC aF aM) (hB : Below W7.drew.heap.size W7.drew w8) (ho : Own w8 W7.drew.heap.size A8 c8 hd) (hn : n8 = hd.length) (hlow : 1 < g ∧ 3 < g ∧ 2 < g ∧ 0 < g) (hn1 : 1 ≤ n) (hk : s2.kept.length = n) (hl : hd.length ≤ 30)
    (ha : -9223372036854775808 ≤ s2.armed ∧ s2.armed ≤ 9223372036854775807) (hc : 0 ≤ s2.calls ∧ s2.calls < 4611686018427387904) :
    Calls Tryz.prog 51 #[.pointer (some ⟨g, 0, none⟩), .int .i64 0, .slice A8 n8 c8] w8 fun e w' => e = .returned (if (dWrite s2 0 hd).1 then .nilIface else .iface 190 (.pointer (some aC))) ∧ Dk w' g f m6 (dWrite s2 0 hd).2 ∧ Fr [g, m6] W7 w' := by
  have hF : Fr [] W7 w8 := ((Fr.refl [] W7).drew 1).belows hB (Nat.le_refl _)
  have hgl := hD.gl
  have := dwrite_any g f m6 s2 0 w8.heap.size A8 c8 hd w8 aR aC aF aM (hD.fr hF (by simp) (by simp) (by simp)) (hE.fr hF (by simp)) hlow (by omega) (by omega) ho.str (Nat.le_refl _) (fun ad e _ => by
    rcases ho.form with ⟨h0, _⟩ | ⟨gg, h0, hb, _⟩
    · rw [h0] at e; cases e
    · rw [h0] at e
      cases e
      have : W7.drew.heap.size = W7.heap.size := rfl
      show gg ≠ g
      omega) ha hc
  rw [← hn] at this
  refine this.mono ?_
  rintro e w' ⟨rfl, h1, h2⟩
  exact ⟨rfl, h1, (hF.more (by simp)).trans h2 (by simp)⟩
theorem wr_head_as {W7 w8 : World} {g f m6 n8 c8 n : Nat} {s2 : DS} {A8 : Option Addr} {hd : List UInt8} {aR aC aF aM : Addr} {y : Bool} {ev : Value} (hy : (dWrite s2 0 hd).1 = y) (hev : (if y then .nilIface else .iface 190 (.pointer (some aC))) = ev) (hD : Dk W7 g f m6 s2) (hE : Es W7 aR aC aF aM) (hB : Below W7.drew.heap.size W7.drew w8) (ho : Own w8 W7.drew.heap.size A8 c8 hd) (hn : n8 = hd.length) (hlow : 1 < g ∧ 3 < g ∧ 2 < g ∧ 0 < g) (hn1 : 1 ≤ n) (hk : s2.kept.length = n) (hl : hd.length ≤ 30)
    (ha : -9223372036854775808 ≤ s2.armed ∧ s2.armed ≤ 9223372036854775807) (hc : 0 ≤ s2.calls ∧ s2.calls < 4611686018427387904) :
    Calls Tryz.prog 51 #[.pointer (some ⟨g, 0, none⟩), .int .i64 0, .slice A8 n8 c8] w8 fun e w' => e = .returned ev ∧ Dk w' g f m6 (dWrite s2 0 hd).2 ∧ Fr [g, m6] W7 w' := by
  have := wr_head hD hE hB ho hn hlow hn1 hk hl ha hc
  rw [hy] at this
  subst hev
  exact this
theorem wr_keep {w W W' : World} {g m6 sb : Nat} {h H' : Hd} {v u : Value} (hX : Blk W w.heap.size 26 #[.pointer (some ⟨sb, 0, none⟩)] ∧ Blk W (w.heap.size + 1) 68 #[.int .i64 H'.age, .int .i64 (H'.half : Int), .int .i64 (H'.used : Int)] ∧ Blk W (w.heap.size + 2) 34 #[u] ∧ StAt W sb g h v) (hF : Fr [g, m6] W W') (h1 : g ≠ sb ∧ m6 ≠ sb ∧ g < w.heap.size) (h2 : m6 < w.heap.size ∨ w.heap.size + 2 < m6) :
    Blk W' w.heap.size 26 #[.pointer (some ⟨sb, 0, none⟩)] ∧ Blk W' (w.heap.size + 1) 68 #[.int .i64 H'.age, .int .i64 (H'.half : Int), .int .i64 (H'.used : Int)] ∧ Blk W' (w.heap.size + 2) 34 #[u] ∧ StAt W' sb g h v :=
  ⟨hX.1.fr hF (by simp; omega), hX.2.1.fr hF (by simp; omega), hX.2.2.1.fr hF (by simp; omega), Blk.fr hX.2.2.2 hF (by simp; omega)⟩
end Go.Proofs.YtmpklljiddggpaaGreatDoor

/-
  The walk of a store's write: the loop over the parts. Conditions: each theorem's own premises.
-/
namespace Go.Proofs.YtmpklljiddggpaaGreatDoor
open Go.Shelf Go.RowKit Go.Lib Go.Sort
attribute [local go_sem] Oper.semAt_some

/-- What a store's write knows while its parts are written. -/
structure WrI (w : World) (N0 g f m sb : Nat) (s0 : DS) (h h1 : Hd) (v v1 : Value) (b : List UInt8) (pre : List Nat) (W : World) : Prop where
  ok : (dParts s0 (h1.first s0.kept.length + h1.used) (pre.map (partB b))).1 = true
  dk : Dk W g f m (dParts s0 (h1.first s0.kept.length + h1.used) (pre.map (partB b))).2
  bs : Blk W w.heap.size 26 #[.pointer (some ⟨sb, 0, none⟩)]
  bh : Blk W (w.heap.size + 1) 68 #[.int .i64 h1.age, .int .i64 (h1.half : Int), .int .i64 ((h1.used + pre.length : Nat) : Int)]
  br : Blk W (w.heap.size + 2) 34 #[.nilIface]
  st : StAt W sb g h v
  by_ : OwnB W (w.heap.size + 3) v1 b
  fr : Fr [g, m] w W
  sz : N0 ≤ W.heap.size
theorem WrI.below {w W W' : World} {N0 g f m sb B : Nat} {s0 : DS} {h h1 : Hd} {v v1 : Value} {b : List UInt8} {pre : List Nat} (H : WrI w N0 g f m sb s0 h h1 v v1 b pre W) (hb : Below B W W') (hB : ∀ j, v1.ownBlock = some j → j < B) (h1' : g < B ∧ f < B ∧ m < B ∧ sb < B ∧ w.heap.size + 2 < B) : WrI w N0 g f m sb s0 h h1 v v1 b pre W' := by
  have hF : ∀ k, k < B → W'.heap[k]? = W.heap[k]? := fun k hk => hb.block k hk
  obtain ⟨⟨c, hH, hc1, hc2⟩, ⟨cs, hr1, hr2⟩, ⟨es, clock, hm1, hm2⟩, d4, d5, d6, d7, d8⟩ := H.dk
  exact ⟨H.ok, ⟨⟨c, (hF g h1'.1).trans hH, hc1, hc2⟩, ⟨cs, (hF f h1'.2.1).trans hr1, hr2⟩, ⟨es, clock, (hF m h1'.2.2.1).trans hm1, hm2⟩, d4, d5, d6, d7, d8⟩, (hF _ (by omega)).trans H.bs, (hF _ (by omega)).trans H.bh, (hF _ h1'.2.2.2.2).trans H.br, (hF sb h1'.2.2.2.1).trans H.st,
    H.by_.keep fun j hj => hF j (hB j hj), H.fr.belows hb (by omega), Nat.le_trans H.sz hb.size⟩

/-- The power has gone while its parts were written. -/
structure WrX (w : World) (N0 g f m sb : Nat) (s0 : DS) (h h1 : Hd) (v : Value) (aC : Addr) (b : List UInt8) (pre : List Nat) (W : World) : Prop where
  ok : (dParts s0 (h1.first s0.kept.length + h1.used) (pre.map (partB b))).1 = false
  dk : Dk W g f m (dParts s0 (h1.first s0.kept.length + h1.used) (pre.map (partB b))).2
  br : Blk W (w.heap.size + 2) 34 #[.iface 190 (.pointer (some aC))]
  st : StAt W sb g h v
  fr : Fr [g, m] w W
  sz : N0 ≤ W.heap.size
theorem Dk.belowB {w w' : World} {g f m B : Nat} {s : DS} (h : Dk w g f m s) (hb : Below B w w') (h1 : g < B ∧ f < B ∧ m < B) : Dk w' g f m s := by
  obtain ⟨⟨c, hH, hc1, hc2⟩, ⟨cs, hr1, hr2⟩, ⟨es, clock, hm1, hm2⟩, d4, d5, d6, d7, d8⟩ := h
  exact ⟨⟨c, (hb.block g h1.1).trans hH, hc1, hc2⟩, ⟨cs, (hb.block f h1.2.1).trans hr1, hr2⟩, ⟨es, clock, (hb.block m h1.2.2).trans hm1, hm2⟩, d4, d5, d6, d7, d8⟩
theorem WrX.below {w W W' : World} {N0 g f m sb B : Nat} {s0 : DS} {h h1 : Hd} {v : Value} {aC : Addr} {b : List UInt8} {pre : List Nat} (H : WrX w N0 g f m sb s0 h h1 v aC b pre W) (hb : Below B W W') (h1' : g < B ∧ f < B ∧ m < B ∧ sb < B ∧ w.heap.size + 2 < B) : WrX w N0 g f m sb s0 h h1 v aC b pre W' :=
  ⟨H.ok, H.dk.belowB hb ⟨h1'.1, h1'.2.1, h1'.2.2.1⟩, (hb.block _ h1'.2.2.2.2).trans H.br, (hb.block sb h1'.2.2.2.1).trans H.st, H.fr.belows hb (by omega), Nat.le_trans H.sz hb.size⟩

set_option maxRecDepth 100000 in
set_option maxHeartbeats 4000000 in
theorem write_any (g f m sb : Nat) (s0 : DS) (h h1 : Hd) (v vn : Value) (Ac : Option Addr) (cc : Nat) (ch : List Chg) (w : World) (aR aC aF aM : Addr) (hD : Dk w g f m s0) (hS : StAt w sb g h v) (hE : Es w aR aC aF aM) (hlow : 1 < g ∧ 3 < g ∧ 2 < g ∧ 0 < g) (hlf : 1 < f ∧ 3 < f ∧ 2 < f ∧ 0 < f)
    (hC : Chs w w.heap.size Ac ch) (hok : ∀ c ∈ ch, OkC c) (hl : ch.length ≤ 1000000) (hh : h1.half ≤ 1) (hroom : h1.used + secs ch ≤ roomN s0.kept.length) (hage : 0 ≤ h1.age ∧ h1.age < 4611686018427387904) (ha : -9223372036854775808 ≤ s0.armed ∧ s0.armed ≤ 9223372036854775807) (hcl : 0 ≤ s0.calls ∧ s0.calls < 2305843009213693952) (hsd : sb ≠ g ∧ sb ≠ f ∧ sb ≠ m) (An : Option Addr) (ln cn : Nat) (hvn : vn = .slice An ln cn) :
    Calls Tryz.prog 28 #[.pointer (some ⟨sb, 0, none⟩), hdV h1, .slice Ac ch.length cc, vn] w (RetWr w g f m sb h (nextH h1 ch) v vn aC (putP s0 h1 ch)) := by
  have hb3 : Below w.heap.size w (((w.alloc (.cells #[.pointer (some ⟨sb, 0, none⟩)] 26)).alloc (.cells #[.int .i64 h1.age, .int .i64 (h1.half : Int), .int .i64 (h1.used : Int)] 68)).alloc (.cells #[.nilIface] 34)) := (((Below.refl _ w).alloc (Nat.le_refl _) _).alloc (by simp) _).alloc (by simp; omega) _
  have hz3 : (((w.alloc (.cells #[.pointer (some ⟨sb, 0, none⟩)] 26)).alloc (.cells #[.int .i64 h1.age, .int .i64 (h1.half : Int), .int .i64 (h1.used : Int)] 68)).alloc (.cells #[.nilIface] 34)).heap.size = w.heap.size + 3 := by simp
  have HEn := Lib.hid (encoded_any Ac cc w.heap.size ch _ (hC.below hb3) hb3.size hok hl)
  unfold hdV
  subst hvn
  have hb4s : Blk (((w.alloc (.cells #[.pointer (some ⟨sb, 0, none⟩)] 26)).alloc (.cells #[.int .i64 h1.age, .int .i64 (h1.half : Int), .int .i64 (h1.used : Int)] 68)).alloc (.cells #[.nilIface] 34)) w.heap.size 26 #[.pointer (some ⟨sb, 0, none⟩)] := Blk.alloc (Blk.alloc (heap_alloc_new w _) _) _
  have hb4h : Blk (((w.alloc (.cells #[.pointer (some ⟨sb, 0, none⟩)] 26)).alloc (.cells #[.int .i64 h1.age, .int .i64 (h1.half : Int), .int .i64 (h1.used : Int)] 68)).alloc (.cells #[.nilIface] 34)) (w.heap.size + 1) 68 #[.int .i64 h1.age, .int .i64 (h1.half : Int), .int .i64 (h1.used : Int)] := by
    have := heap_alloc_new (w.alloc (.cells #[.pointer (some ⟨sb, 0, none⟩)] 26)) (.cells #[.int .i64 h1.age, .int .i64 (h1.half : Int), .int .i64 (h1.used : Int)] 68)
    rw [World.size_alloc] at this
    exact Blk.alloc this _
  have hb4r : Blk (((w.alloc (.cells #[.pointer (some ⟨sb, 0, none⟩)] 26)).alloc (.cells #[.int .i64 h1.age, .int .i64 (h1.half : Int), .int .i64 (h1.used : Int)] 68)).alloc (.cells #[.nilIface] 34)) (w.heap.size + 2) 34 #[.nilIface] := by
    have := heap_alloc_new ((w.alloc (.cells #[.pointer (some ⟨sb, 0, none⟩)] 26)).alloc (.cells #[.int .i64 h1.age, .int .i64 (h1.half : Int), .int .i64 (h1.used : Int)] 68)) (.cells #[.nilIface] 34)
    rw [World.size_alloc, World.size_alloc] at this
    exact this
  have HB3 := Lib.hid hb3
  have HZ3 := Lib.hid hz3
  have HX := Lib.hid (And.intro hb4s (And.intro hb4h hb4r))
  have HD := Lib.hid hD
  have HS := Lib.hid hS
  have HE := Lib.hid hE
  have HLn := Lib.hid (encL_length_le hok)
  have hgl := hD.gl
  have hfl := hD.fl
  have hml := hD.ml
  have hsl := Blk.lt hS
  have hn1 := hD.n1
  have hnm := hD.nm
  clear hC hok hb3 hz3 hb4s hb4h hb4r hD hS hE
  refine (callsIn_wide (n := 3)).1 ?_
  refine callsIn_of_wp_marks Tryz.func28 rfl trivial ?_ rfl
  simp only [Tryz.ntmps28, List.size_toArray, List.length_cons, List.length_nil, Nat.reduceAdd, Nat.reduceSub, Array.replicate_succ, Array.replicate_zero, List.push_toArray, List.append_toArray, List.nil_append, List.cons_append]
  refine wpIn_wide.2 ?_
  go_wp2_with fail
  refine HEn.out.mono ?_
  rintro e w4 ⟨A4, n4, c4, rfl, HN4, ho4, hB4⟩
  rw [HZ3.out] at ho4 hB4
  have hmk := chunk_mk A4 n4 c4 w4
  have hx4s := HX.out.1.below hB4 (by omega)
  have hx4h := HX.out.2.1.below hB4 (by omega)
  have hx4r := HX.out.2.2.below hB4 (by omega)
  have hw4 : w.heap.size + 3 ≤ w4.heap.size := by have := hB4.size; rw [HZ3.out] at this; exact this
  have HB4 := Lib.hid (HB3.out.trans (hB4.mono (by omega)))
  have hob : OwnB w4 (w.heap.size + 3) (.slice A4 (encL ch).length c4) (encL ch) := ho4
  have h5B : Below w4.heap.size w4 ((w4.alloc (.cells #[.slice A4 n4 c4] 88)).alloc (.cells #[.int .i64 128] 3)) := ((Below.refl _ w4).alloc (Nat.le_refl _) _).alloc (by simp) _
  have hz5 : ((w4.alloc (.cells #[.slice A4 n4 c4] 88)).alloc (.cells #[.int .i64 128] 3)).heap.size = w4.heap.size + 2 := by simp
  have hc5s : ((w4.alloc (.cells #[.slice A4 n4 c4] 88)).alloc (.cells #[.int .i64 128] 3)).cell? ⟨w4.heap.size, 0, none⟩ = some (.slice A4 n4 c4) := by simp
  have hc5n : ((w4.alloc (.cells #[.slice A4 n4 c4] 88)).alloc (.cells #[.int .i64 128] 3)).cell? ⟨w4.heap.size + 1, 0, none⟩ = some (.int .i64 128) := by simp
  obtain ⟨b, hb⟩ : ∃ b, b = encL ch := ⟨_, rfl⟩
  have HBb := Lib.hid hb
  have hbl : b.length ≤ 33000000000 := by rw [hb]; have := HLn.out; omega
  rw [← hb] at HN4 hob
  obtain ⟨rw, hrw0, hrw, hst⟩ := chunk_stops 2 (by omega) w4.heap.size (w4.heap.size + 1) A4 c4 (w.heap.size + 3) b _ (hob.below h5B (Nat.le_refl _)) (by omega) (by rw [hz5]; omega) (by rw [hz5]; omega) (by rw [hc5s, HN4.out]) hc5n
  rw [← HN4.out] at hst
  have hown4 : ∀ j, (Value.slice A4 b.length c4).ownBlock = some j → j < w4.heap.size := fun j hj => (hob.block j hj).2
  have hrwg : rw ≠ g := by
    rcases hrw0 with h | h
    · omega
    · have := (hob.block rw (by rw [h]; rfl)).1
      omega
  have hI0 : WrI w (w4.heap.size + 2) g f m sb s0 h h1 v (.slice A4 b.length c4) b [] ((w4.alloc (.cells #[.slice A4 n4 c4] 88)).alloc (.cells #[.int .i64 128] 3)) :=
    { WrI.below (N0 := 0) (B := w4.heap.size) (W := w4) ⟨rfl, HD.out.below HB4.out, hx4s, hx4h, hx4r, Blk.below HS.out HB4.out hsl, hob, (Fr.refl [g, m] w).belows HB4.out (Nat.le_refl _), Nat.zero_le _⟩ h5B hown4 (by omega) with sz := by rw [hz5]; exact Nat.le_refl _ }
  have HI0 := Lib.hid hI0
  have HST := Lib.hid hst
  have HRW := Lib.hid hrw
  have HZ5 := Lib.hid hz5
  have HO4 := Lib.hid hown4
  clear hrw0 hob ho4 hB4 hx4s hx4h hx4r h5B hz5 hc5s hc5n hb hst hrw hown4 hI0 HX HB3 HZ3 HEn
  go_wp2_with fail
  refine hmk.mono ?_
  rintro e w5 ⟨rfl, rfl⟩
  go_wp2_with fail
  refine (wpIn_wide (n := 3)).1 ?_
  refine wpIn_rangeFunc_ownG rfl (by omega) (gf := 75) (lb := #[.pointer (some ⟨w4.heap.size, 0, none⟩), .pointer (some ⟨w4.heap.size + 1, 0, none⟩)]) rfl trivial (enters_of Tryz.func75 (by kernel_rfl) rfl) HST.out (fun h k => h.trans k) (KeepB.put (by rw [HZ5.out]; simp)) (Below.refl _ _) (fun _ => rfl)
    (fun pre W => WrI w (w4.heap.size + 2) g f m sb s0 h h1 v (.slice A4 b.length c4) b pre W)
    (fun c pre W => c = .ret ∧ WrX w (w4.heap.size + 2) g f m sb s0 h h1 v aC b pre W)
    (fun s A B row hs hg hr => hs.below (B := w4.heap.size + 2) ((Below.refl _ A).grown hg hs.sz fun r e => by have := (hr r e).1; rw [HZ5.out] at this; exact this) (fun j hj => by have := HO4.out j hj; omega) (by omega))
    (fun c s A B row hs hg hr => ⟨hs.1, hs.2.below (B := w4.heap.size + 2) ((Below.refl _ A).grown hg hs.2.sz fun r e => by have := (hr r e).1; rw [HZ5.out] at this; exact this) (by omega)⟩)
    HI0.out
    (fun x => { tmps := #[.pointer (some ⟨sb, 0, none⟩), .agg #[.int .i64 h1.age, .int .i64 (h1.half : Int), .int .i64 (h1.used : Int)], .slice Ac ch.length cc, .slice An ln cn, .pointer (some ⟨w.heap.size, 0, none⟩), .pointer (some ⟨w.heap.size + 1, 0, none⟩), undef, undef, .pointer (some ⟨w.heap.size + 1 + 1, 0, none⟩), partV rw n4 x, undef, undef, undef, undef, .slice Ac ch.length cc, .slice A4 n4 c4, .func (.func 75) #[] #[.pointer (some ⟨w4.heap.size, 0, none⟩), .pointer (some ⟨w4.heap.size + 1, 0, none⟩)], partV rw n4 x, undef, undef, undef, undef, undef, undef, undef, undef, undef, undef, undef, undef, undef, undef, undef, undef, undef, undef, undef, undef, undef, undef, undef, undef, undef, undef, undef, undef, undef, undef, undef, undef, undef, undef, undef, undef, undef, undef, undef, undef, undef, undef, undef, undef, undef, undef, undef, undef, undef, undef, undef, undef, undef, undef, undef, undef, undef, undef, undef, undef], defers := [] }) ?assign ?body ?done ?stop
  case assign =>
    intro l x W K hK
    gi_wp2
    exact hK
  case body =>
    rintro l pre x W hi hlen
    have mixed := mixed
    have c4 : W.cell? ⟨w.heap.size, 0, none⟩ = some (.pointer (some ⟨sb, 0, none⟩)) := hi.bs.cell 0
    have cs0 : W.cell? ⟨sb, 0, none⟩ = some (.pointer (some ⟨g, 0, none⟩)) := Blk.cell hi.st 0
    have c50 : W.cell? ⟨w.heap.size + 1, 0, none⟩ = some (.int .i64 h1.age) := hi.bh.cell 0
    have c51 : W.cell? ⟨w.heap.size + 1, 1, none⟩ = some (.int .i64 (h1.half : Int)) := hi.bh.cell 1
    have c52 : W.cell? ⟨w.heap.size + 1, 2, none⟩ = some (.int .i64 ((h1.used + pre.length : Nat) : Int)) := hi.bh.cell 2
    have HI := Lib.hid hi
    clear hi
    gi_wp2
    refine region_round (S := fun W' => W'.cell? ⟨w.heap.size, 0, none⟩ = some (.pointer (some ⟨sb, 0, none⟩)) ∧ W'.cell? ⟨sb, 0, none⟩ = some (.pointer (some ⟨g, 0, none⟩)) ∧ W'.cell? ⟨w.heap.size + 1, 0, none⟩ = some (.int .i64 h1.age) ∧ W'.cell? ⟨w.heap.size + 1, 1, none⟩ = some (.int .i64 (h1.half : Int)) ∧ W'.cell? ⟨w.heap.size + 1, 2, none⟩ = some (.int .i64 ((h1.used + pre.length : Nat) : Int))) mixed (by kernel_rfl) (fun ⟨_, _, h⟩ => h) ?_
    have hS0 : W.drew.cell? ⟨w.heap.size, 0, none⟩ = some (.pointer (some ⟨sb, 0, none⟩)) ∧ W.drew.cell? ⟨sb, 0, none⟩ = some (.pointer (some ⟨g, 0, none⟩)) ∧ W.drew.cell? ⟨w.heap.size + 1, 0, none⟩ = some (.int .i64 h1.age) ∧ W.drew.cell? ⟨w.heap.size + 1, 1, none⟩ = some (.int .i64 (h1.half : Int)) ∧ W.drew.cell? ⟨w.heap.size + 1, 2, none⟩ = some (.int .i64 ((h1.used + pre.length : Nat) : Int)) := ⟨c4, cs0, c50, c51, c52⟩
    refine wpAnyH_take (i := 0) (v := .pointer (some ⟨sb, 0, none⟩)) rfl (by kernel_rfl) (by kernel_rfl) (by kernel_rfl) (fun _ _ _ h => h) (.inl ⟨rfl, fun W' hS => by obtain ⟨q0, q1, q2, q3, q4⟩ := hS; go_simp⟩) hS0 ?_
    refine wpAnyH_take (i := 1) (v := .pointer (some ⟨sb, 0, none⟩)) rfl (by kernel_rfl) (by kernel_rfl) (by kernel_rfl) (fun _ _ _ h => h) (.inl ⟨rfl, fun W' hS => by obtain ⟨q0, q1, q2, q3, q4⟩ := hS; go_simp⟩) hS0 ?_
    refine wpAnyH_take (i := 2) (v := .pointer (some ⟨sb, 0, none⟩)) rfl (by kernel_rfl) (by kernel_rfl) (by kernel_rfl) (fun _ _ _ h => h) (.inl ⟨rfl, fun W' hS => by obtain ⟨q0, q1, q2, q3, q4⟩ := hS; go_simp⟩) hS0 ?_
    refine wpAnyH_take (i := 3) (v := .pointer (some ⟨g, 0, none⟩)) rfl (by kernel_rfl) (by kernel_rfl) (by kernel_rfl) (fun _ _ _ h => h) (.inl ⟨rfl, fun W' hS => by obtain ⟨q0, q1, q2, q3, q4⟩ := hS; go_simp⟩) hS0 ?_
    refine wpAnyH_take (i := 4) (v := .agg #[.int .i64 h1.age, .int .i64 (h1.half : Int), .int .i64 ((h1.used + pre.length : Nat) : Int)]) rfl (by kernel_rfl) (by kernel_rfl) (by kernel_rfl) (fun _ _ _ h => h) (.inl ⟨rfl, fun W' hS => by obtain ⟨q0, q1, q2, q3, q4⟩ := hS; go_simp⟩) hS0 ?_
    refine wpAnyH_take (i := 5) (v := .pointer (some ⟨sb, 0, none⟩)) rfl (by kernel_rfl) (by kernel_rfl) (by kernel_rfl) (fun _ _ _ h => h) (.inl ⟨rfl, fun W' hS => by obtain ⟨q0, q1, q2, q3, q4⟩ := hS; go_simp⟩) hS0 ?_
    refine wpAnyH_take (i := 6) (v := .pointer (some ⟨sb, 0, none⟩)) rfl (by kernel_rfl) (by kernel_rfl) (by kernel_rfl) (fun _ _ _ h => h) (.inl ⟨rfl, fun W' hS => by obtain ⟨q0, q1, q2, q3, q4⟩ := hS; go_simp⟩) hS0 ?_
    refine wpAnyH_take (i := 7) (v := .pointer (some ⟨sb, 0, none⟩)) rfl (by kernel_rfl) (by kernel_rfl) (by kernel_rfl) (fun _ _ _ h => h) (.inl ⟨rfl, fun W' hS => by obtain ⟨q0, q1, q2, q3, q4⟩ := hS; go_simp⟩) hS0 ?_
    refine wpAnyH_take (i := 8) (v := .pointer (some ⟨g, 0, none⟩)) rfl (by kernel_rfl) (by kernel_rfl) (by kernel_rfl) (fun _ _ _ h => h) (.inl ⟨rfl, fun W' hS => by obtain ⟨q0, q1, q2, q3, q4⟩ := hS; go_simp⟩) hS0 ?_
    refine wpAnyH_take (i := 10) (v := .pointer (some ⟨w.heap.size + 1, 2, none⟩)) rfl (by kernel_rfl) (by kernel_rfl) (by kernel_rfl) (fun _ _ _ h => h) (.inl ⟨rfl, fun W' hS => by obtain ⟨q0, q1, q2, q3, q4⟩ := hS; go_simp⟩) hS0 ?_
    refine wpAnyH_take (i := 11) (v := .int .i64 ((h1.used + pre.length : Nat) : Int)) rfl (by kernel_rfl) (by kernel_rfl) (by kernel_rfl) (fun _ _ _ h => h) (.inl ⟨rfl, fun W' hS => by obtain ⟨q0, q1, q2, q3, q4⟩ := hS; go_simp⟩) hS0 ?_
    refine wpAnyH_take (i := 13) (v := partV rw n4 x) rfl (by kernel_rfl) (by kernel_rfl) (by kernel_rfl) (fun _ _ _ h => h) (.inl ⟨rfl, fun W' hS => by obtain ⟨q0, q1, q2, q3, q4⟩ := hS; go_simp⟩) hS0 ?_
    have hbd := bnd_parts ha (h1.first s0.kept.length + h1.used) (pre.map (partB b))
    rw [List.length_map] at hbd
    have hBd := hbd.kept
    have hDd : Dk W.drew g f m (dParts s0 (h1.first s0.kept.length + h1.used) (pre.map (partB b))).2 := HI.out.dk.belowB ((bl_drew W 1).mono HI.out.sz) (by omega)
    have hfi := first_any ⟨h1.age, h1.half, h1.used + pre.length⟩ g f m _ W.drew hDd hh
    rw [hBd] at hfi
    refine wpAnyH_all (rs := [9]) (by kernel_rfl) (by simp) ?_
    intro i hi
    obtain rfl : i = 9 := by simpa using hi
    refine wpOp_enter (f := 52) (args := #[.agg #[.int .i64 h1.age, .int .i64 (h1.half : Int), .int .i64 ((h1.used + pre.length : Nat) : Int)], .pointer (some ⟨g, 0, none⟩)]) rfl rfl (by go_simp) ?_
    refine hfi.mono ?_
    rintro e w6 ⟨rfl, hB6⟩
    refine ⟨_, rfl, ?_⟩
    have hWs := HI.out.sz
    have cb := fun (p : Addr) (u : Value) (hu : W.drew.cell? p = some u) => cell_below hu hB6 (Nat.le_refl _)
    have hS6 : w6.cell? ⟨w.heap.size, 0, none⟩ = some (.pointer (some ⟨sb, 0, none⟩)) ∧ w6.cell? ⟨sb, 0, none⟩ = some (.pointer (some ⟨g, 0, none⟩)) ∧ w6.cell? ⟨w.heap.size + 1, 0, none⟩ = some (.int .i64 h1.age) ∧ w6.cell? ⟨w.heap.size + 1, 1, none⟩ = some (.int .i64 (h1.half : Int)) ∧ w6.cell? ⟨w.heap.size + 1, 2, none⟩ = some (.int .i64 ((h1.used + pre.length : Nat) : Int)) := ⟨cb _ _ hS0.1, cb _ _ hS0.2.1, cb _ _ hS0.2.2.1, cb _ _ hS0.2.2.2.1, cb _ _ hS0.2.2.2.2⟩
    refine ⟨hS6, ?_⟩
    have hK : (b.length + 127) / 128 = secs ch := by rw [HBb.out]; rfl
    have hfr : h1.first s0.kept.length + h1.used + secs ch ≤ s0.kept.length := by
      unfold Hd.first
      have : h1.half * roomN s0.kept.length ≤ 1 * roomN s0.kept.length := Nat.mul_le_mul_right _ hh
      have : 2 * roomN s0.kept.length + 1 ≤ s0.kept.length := by unfold roomN; omega
      omega
    have hlen' : pre.length < secs ch := by rw [← hK, ← HN4.out]; exact hlen
    have hsum : IntKind.i64.wrap ((h1.first s0.kept.length : Int) + ((h1.used + pre.length : Nat) : Int)) = ((h1.first s0.kept.length + h1.used + pre.length : Nat) : Int) := by rw [IntKind.wrap_i64]; omega
    refine wpAnyH_take (i := 12) (v := .int .i64 ((h1.first s0.kept.length + h1.used + pre.length : Nat) : Int)) rfl (by kernel_rfl) (by kernel_rfl) (by kernel_rfl) (fun _ _ _ h => h) (.inl ⟨rfl, fun W' hS => by go_simp; exact hsum⟩) hS6 ?_
    have hD6 : Dk w6 g f m (dParts s0 (h1.first s0.kept.length + h1.used) (pre.map (partB b))).2 := hDd.below hB6
    have hF6 : Fr [] W w6 := ((Fr.refl [] W).drew 1).belows hB6 (Nat.le_refl _)
    have hE6 := (HD.out.errs HE.out hlow HI.out.fr).fr hF6 (by simp)
    have hst6 : Str w6 w6.heap.size (some ⟨rw, x * 128, none⟩) (partB b x) := part_str (HI.out.by_.keep fun j hj => hF6.block j (HI.out.by_.block j hj).2 (by simp)) rw HRW.out x
    have hdw := dwrite_any g f m _ (h1.first s0.kept.length + h1.used + pre.length) w6.heap.size (some ⟨rw, x * 128, none⟩) (min 128 (b.length - x * 128)) (partB b x) w6 aR aC aF aM hD6 hE6 hlow (by rw [hBd]; omega) (partB_le b x) hst6 (Nat.le_refl _) (fun ad e _ => by cases e; exact hrwg) hbd.arm (by have := hbd.lo; have := hbd.hi; omega)
    rw [partB_length] at hdw
    refine wpAnyH_all (rs := [14]) (by kernel_rfl) (by simp) ?_
    intro i hi
    obtain rfl : i = 14 := by simpa using hi
    refine wpOp_enter (f := 51) (args := #[.pointer (some ⟨g, 0, none⟩), .int .i64 ((h1.first s0.kept.length + h1.used + pre.length : Nat) : Int), partV rw n4 x]) rfl rfl (by go_simp) ?_
    unfold partV
    rw [HN4.out]
    refine hdw.mono ?_
    rintro e w7 ⟨rfl, hD7, hF7⟩
    refine ⟨_, rfl, ?_⟩
    have hF67 : Fr [g, m] W w7 := (hF6.more (by simp)).trans hF7 (by simp)
    have hx7s := HI.out.bs.fr hF67 (by simp; omega)
    have hx7h := HI.out.bh.fr hF67 (by simp; omega)
    have hx7t : StAt w7 sb g h v := Blk.fr HI.out.st hF67 (by simp; omega)
    have hS7 : w7.cell? ⟨w.heap.size, 0, none⟩ = some (.pointer (some ⟨sb, 0, none⟩)) ∧ w7.cell? ⟨sb, 0, none⟩ = some (.pointer (some ⟨g, 0, none⟩)) ∧ w7.cell? ⟨w.heap.size + 1, 0, none⟩ = some (.int .i64 h1.age) ∧ w7.cell? ⟨w.heap.size + 1, 1, none⟩ = some (.int .i64 (h1.half : Int)) ∧ w7.cell? ⟨w.heap.size + 1, 2, none⟩ = some (.int .i64 ((h1.used + pre.length : Nat) : Int)) := ⟨hx7s.cell 0, Blk.cell hx7t 0, hx7h.cell 0, hx7h.cell 1, hx7h.cell 2⟩
    refine ⟨hS7, ?_⟩
    refine wpAnyH_take (i := 15) (v := if (dWrite (dParts s0 (h1.first s0.kept.length + h1.used) (pre.map (partB b))).2 (h1.first s0.kept.length + h1.used + pre.length) (partB b x)).1 then .nilIface else .iface 190 (.pointer (some aC))) rfl (by kernel_rfl) (by kernel_rfl) (by kernel_rfl) (fun _ _ _ h => h) (.inl ⟨rfl, fun W' hS => by go_simp⟩) hS7 ?_
    refine wpAnyH_done (by kernel_rfl) ?_ _
    have hsn : dParts s0 (h1.first s0.kept.length + h1.used) ((pre ++ [x]).map (partB b)) = dWrite (dParts s0 (h1.first s0.kept.length + h1.used) (pre.map (partB b))).2 (h1.first s0.kept.length + h1.used + pre.length) (partB b x) := by
      rw [List.map_append, List.map_singleton, dParts_snoc, List.length_map]
      unfold dThen
      rw [HI.out.ok]
      rfl
    rw [← hsn] at hD7 ⊢
    have HSn := Lib.hid hsn
    have HD7 := Lib.hid hD7
    have HF7 := Lib.hid hF67
    have HSz := Lib.hid (Nat.le_trans HI.out.sz hF67.size)
    clear hS6 hS0 hsn hD7 hF7 hF6 hdw hst6 hE6 hD6 hfi hDd hB6 cb c4 cs0 c50 c51 c52
    have hx7r := HI.out.br.fr HF7.out (by simp; omega)
    have hgl2 := HI.out.sz
    cases hdr : (dParts s0 (h1.first s0.kept.length + h1.used) ((pre ++ [x]).map (partB b))).1
    · have c8 : w7.cell? ⟨w.heap.size + 1 + 1, 0, none⟩ = some .nilIface := hx7r.cell 0
      have z8 : w7.frozen? ⟨w.heap.size + 1 + 1, 0, none⟩ = false := hx7r.free 0
      have hf8 : Fr [g, m, w.heap.size + 2] W (w7.setCell ⟨w.heap.size + 2, 0, none⟩ (.iface 190 (.pointer (some aC)))) := (HF7.out.more (by simp)).set (.inl (by simp)) _
      have hf7 : Fr [w.heap.size + 2] w7 (w7.setCell ⟨w.heap.size + 2, 0, none⟩ (.iface 190 (.pointer (some aC)))) := (Fr.refl _ _).set (.inl (by simp)) _
      have HFin : Hid (KeepsFrom ((w4.alloc (.cells #[.slice A4 n4 c4] 88)).alloc (.cells #[.int .i64 128] 3)).heap.size W (w7.setCell ⟨w.heap.size + 2, 0, none⟩ (.iface 190 (.pointer (some aC)))) ∧ WrX w (w4.heap.size + 2) g f m sb s0 h h1 v aC b (pre ++ [x]) (w7.setCell ⟨w.heap.size + 2, 0, none⟩ (.iface 190 (.pointer (some aC))))) :=
        Lib.hid ⟨keepsFrom_fr hf8 (by rw [HZ5.out]; simp; omega), hdr, HD7.out.fr hf7 (by simp; omega) (by simp; omega) (by simp; omega), hx7r.set 0 _, Blk.fr hx7t hf7 (by simp; omega), (HI.out.fr.trans HF7.out (by simp)).set (.inr (by show w.heap.size ≤ w.heap.size + 2; omega)) _, by simpa using HSz.out⟩
      clear hf8 hf7 hx7r hx7t hx7h hx7s
      gi_wp2
      exact ⟨HFin.out.1, rfl, HFin.out.2⟩
    · have d2 : w7.cell? ⟨w.heap.size + 1, 2, none⟩ = some (.int .i64 ((h1.used + pre.length : Nat) : Int)) := hx7h.cell 2
      have z2 : w7.frozen? ⟨w.heap.size + 1, 2, none⟩ = false := hx7h.free 2
      have hub : h1.used + pre.length ≤ 16384 := by omega
      have hf8 : Fr [g, m, w.heap.size + 1] W (w7.setCell ⟨w.heap.size + 1, 2, none⟩ (.int .i64 ((h1.used : Int) + (pre.length : Int) + 1))) := (HF7.out.more (by simp)).set (.inl (by simp)) _
      have hf7 : Fr [w.heap.size + 1] w7 (w7.setCell ⟨w.heap.size + 1, 2, none⟩ (.int .i64 ((h1.used : Int) + (pre.length : Int) + 1))) := (Fr.refl _ _).set (.inl (by simp)) _
      have hbh := hx7h.set 2 (.int .i64 ((h1.used : Int) + (pre.length : Int) + 1))
      have hbe : (h1.used : Int) + (pre.length : Int) + 1 = ((h1.used + (pre ++ [x]).length : Nat) : Int) := by simp; omega
      have hby : OwnB (w7.setCell ⟨w.heap.size + 1, 2, none⟩ (.int .i64 ((h1.used : Int) + (pre.length : Int) + 1))) (w.heap.size + 3) (.slice A4 b.length c4) b := HI.out.by_.keep fun j hj => hf8.block j (HI.out.by_.block j hj).2 (by have := (HI.out.by_.block j hj).1; simp; omega)
      have HFin : Hid (KeepsFrom ((w4.alloc (.cells #[.slice A4 n4 c4] 88)).alloc (.cells #[.int .i64 128] 3)).heap.size W (w7.setCell ⟨w.heap.size + 1, 2, none⟩ (.int .i64 ((h1.used : Int) + (pre.length : Int) + 1))) ∧ KeepB [w4.heap.size, w4.heap.size + 1] W (w7.setCell ⟨w.heap.size + 1, 2, none⟩ (.int .i64 ((h1.used : Int) + (pre.length : Int) + 1))) ∧ WrI w (w4.heap.size + 2) g f m sb s0 h h1 v (.slice A4 b.length c4) b (pre ++ [x]) (w7.setCell ⟨w.heap.size + 1, 2, none⟩ (.int .i64 ((h1.used : Int) + (pre.length : Int) + 1)))) :=
        Lib.hid ⟨keepsFrom_fr hf8 (by rw [HZ5.out]; simp; omega), keepB_fr hf8 (by simp; omega), hdr, HD7.out.fr hf7 (by simp; omega) (by simp; omega) (by simp; omega), hx7s.fr hf7 (by simp), by rw [← hbe]; exact hbh, hx7r.fr hf7 (by simp), Blk.fr hx7t hf7 (by simp; omega), hby, (HI.out.fr.trans HF7.out (by simp)).set (.inr (by show w.heap.size ≤ w.heap.size + 1; omega)) _, by simpa using HSz.out⟩
      clear hf8 hf7 hx7r hx7t hx7h hx7s hbh hbe hby
      gi_wp2
      exact HFin.out
  case done =>
    rintro D xs W hDs rfl hI hK
    rw [HZ5.out] at hDs
    rw [HN4.out] at hI
    have hK0 : (b.length + 127) / 128 = secs ch := by rw [HBb.out]; rfl
    have hch : (List.range ((b.length + 127) / 128)).map (partB b) = chunks (encL ch) := by rw [partB_range, HBb.out]
    have hok1 := hI.ok
    have hdk1 := hI.dk
    have hbh1 := hI.bh
    rw [hch] at hok1 hdk1
    rw [List.length_range, hK0] at hbh1
    have hbd := bnd_parts ha (h1.first s0.kept.length + h1.used) (chunks (encL ch))
    rw [chunks_length] at hbd
    have hsc : ((encL ch).length + 127) / 128 = secs ch := rfl
    rw [hsc] at hbd
    have hpp : putP s0 h1 ch = dThen (dThen (dFlush (dParts s0 (h1.first s0.kept.length + h1.used) (chunks (encL ch))).2) fun s' => dWrite s' 0 (encH (nextH h1 ch))) dFlush := by
      have e1 : ∀ q, dThen (dParts s0 (h1.first s0.kept.length + h1.used) (chunks (encL ch))) q = q (dParts s0 (h1.first s0.kept.length + h1.used) (chunks (encL ch))).2 := fun q => by unfold dThen; rw [hok1]; rfl
      unfold putP dStore
      rw [e1]
    have HPP := Lib.hid hpp
    generalize (dParts s0 (h1.first s0.kept.length + h1.used) (chunks (encL ch))).2 = s1 at *
    have hE1 := HD.out.errs HE.out hlow hI.fr
    have hfl1 := dflush_any g f m s1 W aR aC aF aM hdk1 hE1 hlow hbd.arm (by have := hbd.lo; have := hbd.hi; omega)
    have c4 : W.cell? ⟨w.heap.size, 0, none⟩ = some (.pointer (some ⟨sb, 0, none⟩)) := hI.bs.cell 0
    have cs0 : W.cell? ⟨sb, 0, none⟩ = some (.pointer (some ⟨g, 0, none⟩)) := Blk.cell hI.st 0
    have HFl1 := Lib.hid hfl1
    have HI := Lib.hid hI
    have Hbh1 := Lib.hid hbh1
    have HBd := Lib.hid hbd
    have HE1 := Lib.hid hE1
    have HK := Lib.hid hK
    have hWs := hI.sz
    have hDl : D < W.heap.size := (Array.getElem?_eq_some_iff.1 hK).1
    clear hpp hok1 hdk1 hbh1 hbd hE1 hfl1 hI hch hK hsc
    go_wp2_with fail
    refine HFl1.out.mono ?_
    rintro e w6 ⟨rfl, m6, hm6, hD6, hF6⟩
    have hbs6 := HI.out.bs.fr hF6 (by simp; omega)
    have hbh6 := Hbh1.out.fr hF6 (by simp; omega)
    have hbr6 := HI.out.br.fr hF6 (by simp; omega)
    have hst6 : StAt w6 sb g h v := Blk.fr HI.out.st hF6 (by simp; omega)
    have HF06 := Lib.hid ((HI.out.fr.more (S' := [g, f, m, sb]) (by simp)).trans hF6 (by simp))
    have HK6 := Lib.hid ((hF6.block D hDl (by simp; omega)).trans HK.out)
    have HD6 := Lib.hid hD6
    have hw6 := hF6.size
    have HE6 := Lib.hid (HE1.out.fr hF6 (by simp; omega))
    clear HFl1 c4 cs0 hF6 hD6
    cases hd1 : (dFlush s1).1
    · have c8 : w6.cell? ⟨w.heap.size + 1 + 1, 0, none⟩ = some .nilIface := hbr6.cell 0
      have z8 : w6.frozen? ⟨w.heap.size + 1 + 1, 0, none⟩ = false := hbr6.free 0
      have hpp : putP s0 h1 ch = dFlush s1 := by rw [HPP.out]; unfold dThen; simp only [hd1, Bool.false_eq_true, if_false]
      have HEnd := Lib.hid (wr_end (aC := aC) hbr6 hst6 HD6.out HF06.out HK6.out (by omega) (by omega) (by omega) (by omega) (by omega) (h' := nextH h1 ch) (vn := .slice An ln cn) (x := putP s0 h1 ch) (.inr ⟨by rw [hpp]; exact hd1, rfl⟩) (by rw [hpp]))
      clear hbs6 hbh6 hbr6 hst6 hpp
      go_wp2
      obtain ⟨hKe, hce, hfin⟩ := HEnd.out
      refine ⟨by simp, .inl ⟨_, _, rfl, run_takeDeferred hKe, ?_⟩⟩
      exact ⟨_, by simp [results, Tryz.results28, go_sem, hce], hfin⟩
    · have c0 : w6.cell? ⟨w.heap.size + 1, 0, none⟩ = some (.int .i64 h1.age) := hbh6.cell 0
      have z0 : w6.frozen? ⟨w.heap.size + 1, 0, none⟩ = false := hbh6.free 0
      have hF7 : Fr [w.heap.size + 1] w6 (w6.setCell ⟨w.heap.size + 1, 0, none⟩ (.int .i64 (h1.age + 1))) := (Fr.refl _ w6).set (.inl (by simp)) _
      have hbs7 := hbs6.fr hF7 (by simp)
      have hbh7 : Blk (w6.setCell ⟨w.heap.size + 1, 0, none⟩ (.int .i64 (h1.age + 1))) (w.heap.size + 1) 68 #[.int .i64 (nextH h1 ch).age, .int .i64 ((nextH h1 ch).half : Int), .int .i64 ((nextH h1 ch).used : Int)] := hbh6.set 0 (.int .i64 (h1.age + 1))
      have hbr7 := hbr6.fr hF7 (by simp)
      have hst7 : StAt (w6.setCell ⟨w.heap.size + 1, 0, none⟩ (.int .i64 (h1.age + 1))) sb g h v := Blk.fr hst6 hF7 (by simp; omega)
      have hD7 := HD6.out.fr hF7 (by simp; omega) (by simp; omega) (by simp; omega)
      have hF07 := HF06.out.trans hF7 (by simp)
      have hK7 := (hF7.block D (by omega) (by simp; omega)).trans HK6.out
      have hE7 : Es (w6.setCell ⟨w.heap.size + 1, 0, none⟩ (.int .i64 (h1.age + 1))) aR aC aF aM := HE6.out.fr hF7 (fun x hx => by obtain rfl : x = w.heap.size + 1 := List.mem_singleton.1 hx; omega)
      have hz7 : (w6.setCell ⟨w.heap.size + 1, 0, none⟩ (.int .i64 (h1.age + 1))).heap.size = w6.heap.size := by simp
      have hz7' : w6.heap.size ≤ (w6.setCell ⟨w.heap.size + 1, 0, none⟩ (.int .i64 (h1.age + 1))).heap.size := by omega
      clear hbs6 hbh6 hbr6 hst6 hF7 hz7
      go_wp2_with fail
      generalize w6.setCell ⟨w.heap.size + 1, 0, none⟩ (.int .i64 (h1.age + 1)) = W7 at *
      have hb2 := HBd.out.flush
      have hb2k := hb2.kept
      have hrn2 : roomN s0.kept.length ≤ 8192 := by unfold roomN; omega
      have hu2 : (nextH h1 ch).used ≤ 16384 := by have : (nextH h1 ch).used = h1.used + secs ch := rfl; omega
      have ha2 : 0 ≤ (nextH h1 ch).age ∧ (nextH h1 ch).age ≤ 9223372036854775807 := by show 0 ≤ h1.age + 1 ∧ h1.age + 1 ≤ _; omega
      have hen := henc_any (nextH h1 ch) W7.drew ha2 hh hu2
      have hhl := encH_length (nextH h1 ch)
      have HPP2 : Hid (putP s0 h1 ch = dThen (dWrite (dFlush s1).2 0 (encH (nextH h1 ch))) dFlush) := Lib.hid (by rw [HPP.out]; congr 1; unfold dThen; rw [hd1]; rfl)
      generalize (dFlush s1).2 = s2 at *
      have k4 : W7.cell? ⟨w.heap.size, 0, none⟩ = some (.pointer (some ⟨sb, 0, none⟩)) := hbs7.cell 0
      have ks : W7.cell? ⟨sb, 0, none⟩ = some (.pointer (some ⟨g, 0, none⟩)) := Blk.cell hst7 0
      have kh := And.intro (hbh7.cell 0) (And.intro (hbh7.cell 1) (hbh7.cell 2))
      obtain ⟨H', hH'⟩ : ∃ H', H' = nextH h1 ch := ⟨_, rfl⟩
      rw [← hH'] at hen hhl HPP2 kh hbh7 hu2 ha2
      have k50 : W7.cell? ⟨w.heap.size + 1, 0, none⟩ = some (.int .i64 H'.age) := kh.1
      have k51 : W7.cell? ⟨w.heap.size + 1, 1, none⟩ = some (.int .i64 (H'.half : Int)) := kh.2.1
      have k52 : W7.cell? ⟨w.heap.size + 1, 2, none⟩ = some (.int .i64 (H'.used : Int)) := kh.2.2
      have HH' := Lib.hid hH'
      have HCB := Lib.hid (fun (p : Addr) (u : Value) (hu : W7.cell? p = some u) (w8 : World) (hB8 : Below W7.drew.heap.size W7.drew w8) => cell_below (w := W7.drew) hu hB8 (Nat.le_refl _))
      have HX7 := Lib.hid (And.intro hbs7 (And.intro hbh7 (And.intro hbr7 hst7)))
      have HD7 := Lib.hid hD7
      have HF07 := Lib.hid hF07
      have HK7 := Lib.hid hK7
      have HE7 := Lib.hid hE7
      have Hb2 := Lib.hid hb2
      have Hd1 := Lib.hid hd1
      have hm7 : m6 < W7.heap.size := HD7.out.ml
      clear hbs7 hbh7 hbr7 hst7 hD7 hF07 hK7 hE7 hb2 kh hH' c0 z0 hd1
      cases hd2 : (dWrite s2 0 (encH H')).1
      · have Hd2 := Lib.hid hd2
        clear hd2
        go_region_held3 (fun W => W.cell? ⟨w.heap.size, 0, none⟩ = some (.pointer (some ⟨sb, 0, none⟩)) ∧ W.cell? ⟨sb, 0, none⟩ = some (.pointer (some ⟨g, 0, none⟩)) ∧ W.cell? ⟨w.heap.size + 1, 0, none⟩ = some (.int .i64 H'.age) ∧ W.cell? ⟨w.heap.size + 1, 1, none⟩ = some (.int .i64 (H'.half : Int)) ∧ W.cell? ⟨w.heap.size + 1, 2, none⟩ = some (.int .i64 (H'.used : Int))) (go_keep)
          (first
            | (go_at_call 54; refine hen.mono ?_; rintro e w8 ⟨A8, n8, c8, rfl, HN8, ho8, hB8⟩; have i4 := HCB.out _ _ k4 _ hB8; have is := HCB.out _ _ ks _ hB8; have i50 := HCB.out _ _ k50 _ hB8; have i51 := HCB.out _ _ k51 _ hB8; have i52 := HCB.out _ _ k52 _ hB8; have HO8 := Lib.hid ho8; have HB8 := Lib.hid hB8; have hn8 : n8 ≤ 30 := (by have := HN8.out; omega); clear ho8 hB8)
            | (go_at_call 51; refine (wr_head_as Hd2.out (ev := .iface 190 (.pointer (some aC))) rfl HD7.out HE7.out HB8.out HO8.out HN8.out hlow hn1 hb2k hhl Hb2.out.arm (by have := Hb2.out.lo; have := Hb2.out.hi; omega)).mono ?_; rintro e w9 ⟨rfl, hD9, hF9⟩; obtain ⟨hbs9, hbh9, hbr9, hst9⟩ := wr_keep HX7.out hF9 (by omega) (by omega); have j4 : w9.cell? ⟨w.heap.size, 0, none⟩ = some (.pointer (some ⟨sb, 0, none⟩)) := hbs9.cell 0; have js : w9.cell? ⟨sb, 0, none⟩ = some (.pointer (some ⟨g, 0, none⟩)) := Blk.cell hst9 0; have j50 : w9.cell? ⟨w.heap.size + 1, 0, none⟩ = some (.int .i64 H'.age) := hbh9.cell 0; have j51 : w9.cell? ⟨w.heap.size + 1, 1, none⟩ = some (.int .i64 (H'.half : Int)) := hbh9.cell 1; have j52 : w9.cell? ⟨w.heap.size + 1, 2, none⟩ = some (.int .i64 (H'.used : Int)) := hbh9.cell 2; have HX9 := Lib.hid (And.intro hbs9 (And.intro hbh9 (And.intro hbr9 hst9))); have HD9 := Lib.hid hD9; have HF9 := Lib.hid hF9; clear hbs9 hbh9 hbr9 hst9 hD9 hF9))
        have hpp : putP s0 h1 ch = dWrite s2 0 (encH H') := by rw [HPP2.out]; unfold dThen; rw [Hd2.out]; rfl
        have c8 : w9.cell? ⟨w.heap.size + 1 + 1, 0, none⟩ = some .nilIface := HX9.out.2.2.1.cell 0
        have z8 : w9.frozen? ⟨w.heap.size + 1 + 1, 0, none⟩ = false := HX9.out.2.2.1.free 0
        have hF09 : Fr [g, f, m, sb] w w9 := HF07.out.trans HF9.out (by simp; omega)
        have hK9 := (HF9.out.block D (by omega) (by simp; omega)).trans HK7.out
        have HEnd := Lib.hid (wr_end (aC := aC) HX9.out.2.2.1 HX9.out.2.2.2 HD9.out hF09 hK9 (by omega) (by omega) (by omega) (by omega) (by omega) (h' := nextH h1 ch) (vn := .slice An ln cn) (x := putP s0 h1 ch) (.inr ⟨by rw [hpp]; exact Hd2.out, rfl⟩) (by rw [hpp]))
        clear hpp hF09 hK9
        go_wp2
        obtain ⟨hKe, hce, hfin⟩ := HEnd.out
        refine ⟨by simp, .inl ⟨_, _, rfl, run_takeDeferred hKe, ?_⟩⟩
        exact ⟨_, by simp [results, Tryz.results28, go_sem, hce], hfin⟩
      · have Hd2 := Lib.hid hd2
        clear hd2
        go_region_held3 (fun W => W.cell? ⟨w.heap.size, 0, none⟩ = some (.pointer (some ⟨sb, 0, none⟩)) ∧ W.cell? ⟨sb, 0, none⟩ = some (.pointer (some ⟨g, 0, none⟩)) ∧ W.cell? ⟨w.heap.size + 1, 0, none⟩ = some (.int .i64 H'.age) ∧ W.cell? ⟨w.heap.size + 1, 1, none⟩ = some (.int .i64 (H'.half : Int)) ∧ W.cell? ⟨w.heap.size + 1, 2, none⟩ = some (.int .i64 (H'.used : Int))) (go_keep)
          (first
            | (go_at_call 54; refine hen.mono ?_; rintro e w8 ⟨A8, n8, c8, rfl, HN8, ho8, hB8⟩; have i4 := HCB.out _ _ k4 _ hB8; have is := HCB.out _ _ ks _ hB8; have i50 := HCB.out _ _ k50 _ hB8; have i51 := HCB.out _ _ k51 _ hB8; have i52 := HCB.out _ _ k52 _ hB8; have HO8 := Lib.hid ho8; have HB8 := Lib.hid hB8; have hn8 : n8 ≤ 30 := (by have := HN8.out; omega); clear ho8 hB8)
            | (go_at_call 51; refine (wr_head_as Hd2.out (ev := .nilIface) rfl HD7.out HE7.out HB8.out HO8.out HN8.out hlow hn1 hb2k hhl Hb2.out.arm (by have := Hb2.out.lo; have := Hb2.out.hi; omega)).mono ?_; rintro e w9 ⟨rfl, hD9, hF9⟩; obtain ⟨hbs9, hbh9, hbr9, hst9⟩ := wr_keep HX7.out hF9 (by omega) (by omega); have j4 : w9.cell? ⟨w.heap.size, 0, none⟩ = some (.pointer (some ⟨sb, 0, none⟩)) := hbs9.cell 0; have js : w9.cell? ⟨sb, 0, none⟩ = some (.pointer (some ⟨g, 0, none⟩)) := Blk.cell hst9 0; have j50 : w9.cell? ⟨w.heap.size + 1, 0, none⟩ = some (.int .i64 H'.age) := hbh9.cell 0; have j51 : w9.cell? ⟨w.heap.size + 1, 1, none⟩ = some (.int .i64 (H'.half : Int)) := hbh9.cell 1; have j52 : w9.cell? ⟨w.heap.size + 1, 2, none⟩ = some (.int .i64 (H'.used : Int)) := hbh9.cell 2; have HX9 := Lib.hid (And.intro hbs9 (And.intro hbh9 (And.intro hbr9 hst9))); have HD9 := Lib.hid hD9; have HF9 := Lib.hid hF9; clear hbs9 hbh9 hbr9 hst9 hD9 hF9))
        have hb3 := Hb2.out.write 0 (encH H')
        have hE9 := HD7.out.errs HE7.out hlow HF9.out
        have hfl := dflush_any g f m6 (dWrite s2 0 (encH H')).2 w9 aR aC aF aM HD9.out hE9 hlow hb3.arm (by have := hb3.lo; have := hb3.hi; omega)
        have HFl := Lib.hid hfl
        have HPP3 : Hid (putP s0 h1 ch = dFlush (dWrite s2 0 (encH H')).2) := Lib.hid (by rw [HPP2.out]; unfold dThen; rw [Hd2.out]; rfl)
        generalize (dWrite s2 0 (encH H')).2 = s3 at *
        have hF09 : Fr [g, f, m, sb] w w9 := HF07.out.trans HF9.out (by simp; omega)
        have HF09 := Lib.hid hF09
        have HK9 := Lib.hid ((HF9.out.block D (by omega) (by simp; omega)).trans HK7.out)
        have hw9 := HF9.out.size
        clear hb3 hE9 hfl hF09
        go_wp2_with fail
        refine HFl.out.mono ?_
        rintro e w10 ⟨rfl, m10, hm10, hD10, hF10⟩
        have hbs10 := HX9.out.1.fr hF10 (by simp; omega)
        have hbh10 := HX9.out.2.1.fr hF10 (by simp; omega)
        have hbr10 := HX9.out.2.2.1.fr hF10 (by simp; omega)
        have hst10 : StAt w10 sb g h v := Blk.fr HX9.out.2.2.2 hF10 (by simp; omega)
        have HF010 := Lib.hid (HF09.out.trans hF10 (by simp))
        have HK10 := Lib.hid ((hF10.block D (by omega) (by simp; omega)).trans HK9.out)
        have HD10 := Lib.hid hD10
        have hw10 := hF10.size
        clear HFl hF10 hD10 j4 js j50 j51 j52
        cases hd3 : (dFlush s3).1
        · have c8 : w10.cell? ⟨w.heap.size + 1 + 1, 0, none⟩ = some .nilIface := hbr10.cell 0
          have z8 : w10.frozen? ⟨w.heap.size + 1 + 1, 0, none⟩ = false := hbr10.free 0
          have HEnd := Lib.hid (wr_end (aC := aC) hbr10 hst10 HD10.out HF010.out HK10.out (by omega) (by omega) (by omega) (by omega) (by omega) (h' := nextH h1 ch) (vn := .slice An ln cn) (x := putP s0 h1 ch) (.inr ⟨by rw [HPP3.out]; exact hd3, rfl⟩) (by rw [HPP3.out]))
          clear hbs10 hbh10 hbr10 hst10
          go_wp2
          obtain ⟨hKe, hce, hfin⟩ := HEnd.out
          refine ⟨by simp, .inl ⟨_, _, rfl, run_takeDeferred hKe, ?_⟩⟩
          exact ⟨_, by simp [results, Tryz.results28, go_sem, hce], hfin⟩
        · have Hd3 := Lib.hid hd3
          clear hd3
          have l4 : w10.cell? ⟨w.heap.size, 0, none⟩ = some (.pointer (some ⟨sb, 0, none⟩)) := hbs10.cell 0
          have l50 : w10.cell? ⟨w.heap.size + 1, 0, none⟩ = some (.int .i64 H'.age) := hbh10.cell 0
          have l51 : w10.cell? ⟨w.heap.size + 1, 1, none⟩ = some (.int .i64 (H'.half : Int)) := hbh10.cell 1
          have l52 : w10.cell? ⟨w.heap.size + 1, 2, none⟩ = some (.int .i64 (H'.used : Int)) := hbh10.cell 2
          have t1 : w10.cell? ⟨sb, 1, none⟩ = some (.int .i64 h.age) := Blk.cell hst10 1
          have t2 : w10.cell? ⟨sb, 2, none⟩ = some (.int .i64 (h.half : Int)) := Blk.cell hst10 2
          have t3 : w10.cell? ⟨sb, 3, none⟩ = some (.int .i64 (h.used : Int)) := Blk.cell hst10 3
          have t4 : w10.cell? ⟨sb, 4, none⟩ = some v := Blk.cell hst10 4
          have y1 : w10.frozen? ⟨sb, 1, none⟩ = false := Blk.free hst10 1
          have y2 : w10.frozen? ⟨sb, 2, none⟩ = false := Blk.free hst10 2
          have y3 : w10.frozen? ⟨sb, 3, none⟩ = false := Blk.free hst10 3
          have y4 : w10.frozen? ⟨sb, 4, none⟩ = false := Blk.free hst10 4
          have hne1 : ¬ w.heap.size = sb := by omega
          have hne2 : ¬ w.heap.size + 1 = sb := by omega
          have hne3 : ¬ sb = w.heap.size := by omega
          have hne4 : ¬ sb = w.heap.size + 1 := by omega
          have HX10 := Lib.hid (And.intro hbr10 hst10)
          clear hbs10 hbh10 hbr10 hst10
          go_wp2_with fail
          go_region
          have hFs : Fr [sb] w10 (((((w10.setCell ⟨sb, 1, none⟩ (.int .i64 H'.age)).setCell ⟨sb, 2, none⟩ (.int .i64 (H'.half : Int))).setCell ⟨sb, 3, none⟩ (.int .i64 (H'.used : Int))).setCell ⟨sb, 4, none⟩ (.slice An ln cn)).drew) := (((((Fr.refl [sb] w10).set (.inl (by simp)) _).set (.inl (by simp)) _).set (.inl (by simp)) _).set (.inl (by simp)) _).drew 1
          have hsb : StAt (((((w10.setCell ⟨sb, 1, none⟩ (.int .i64 H'.age)).setCell ⟨sb, 2, none⟩ (.int .i64 (H'.half : Int))).setCell ⟨sb, 3, none⟩ (.int .i64 (H'.used : Int))).setCell ⟨sb, 4, none⟩ (.slice An ln cn)).drew) sb g H' (.slice An ln cn) := (((Blk.set HX10.out.2 1 (.int .i64 H'.age)).set 2 (.int .i64 (H'.half : Int))).set 3 (.int .i64 (H'.used : Int))).set 4 (.slice An ln cn)
          have hbr := HX10.out.1.fr hFs (by simp; omega)
          have hDs' := HD10.out.fr hFs (by simp; omega) (by simp; omega) (by simp; omega)
          have hF0 : Fr [g, f, m, sb] w _ := HF010.out.trans hFs (by simp)
          have hKs := (hFs.block D (by omega) (by simp; omega)).trans HK10.out
          have hws := hFs.size
          generalize ((((w10.setCell ⟨sb, 1, none⟩ (.int .i64 H'.age)).setCell ⟨sb, 2, none⟩ (.int .i64 (H'.half : Int))).setCell ⟨sb, 3, none⟩ (.int .i64 (H'.used : Int))).setCell ⟨sb, 4, none⟩ (.slice An ln cn)).drew = wF at *
          have hx : (putP s0 h1 ch).1 = true := by rw [HPP3.out]; exact Hd3.out
          have HEnd := Lib.hid (wr_end (aC := aC) (h' := H') (vn := .slice An ln cn) (x := putP s0 h1 ch) hbr hsb hDs' hF0 hKs (by omega) (by omega) (by omega) (by omega) (by omega) (.inl ⟨hx, rfl, rfl, rfl⟩) (by rw [HPP3.out]))
          have c8 : wF.cell? ⟨w.heap.size + 1 + 1, 0, none⟩ = some .nilIface := hbr.cell 0
          have z8 : wF.frozen? ⟨w.heap.size + 1 + 1, 0, none⟩ = false := hbr.free 0
          have HX := Lib.hid hx
          clear hFs hsb hbr hDs' hF0 hKs hx
          go_wp2
          obtain ⟨hKe, hce, hfin⟩ := HEnd.out
          refine ⟨by simp, .inl ⟨_, _, rfl, run_takeDeferred hKe, ?_⟩⟩
          exact ⟨.nilIface, by simp [results, Tryz.results28, go_sem, hce], by rw [← HH'.out]; exact hfin.of_ok HX.out⟩
  case stop =>
    rintro D c pre W hDs ⟨hp1, hp2⟩ ⟨rfl, hX⟩ hK
    rw [HZ5.out] at hDs
    rw [HN4.out] at hp1
    obtain ⟨r, hr⟩ := parts_pre hp1 hp2
    have hpp : putP s0 h1 ch = dParts s0 (h1.first s0.kept.length + h1.used) (pre.map (partB b)) := by
      have e1 : dParts s0 (h1.first s0.kept.length + h1.used) (chunks (encL ch)) = dParts s0 (h1.first s0.kept.length + h1.used) (pre.map (partB b)) := by rw [← HBb.out, hr, dParts_fail _ _ _ hX.ok]
      unfold putP dStore
      rw [e1]
      unfold dThen
      simp only [hX.ok, Bool.false_eq_true, if_false]
    have hDk : Dk (W.putObj D (.deferred none)) g f m (dParts s0 (h1.first s0.kept.length + h1.used) (pre.map (partB b))).2 := hX.dk.belowB (B := w4.heap.size + 2) ((Below.refl _ W).grown (grownBy_putObj' W D _) hX.sz (fun k e => by cases e; exact hDs)) (by omega)
    have hXp := hX.below (B := w4.heap.size + 2) ((Below.refl _ W).grown (grownBy_putObj' W D (.deferred none)) hX.sz (fun k e => by cases e; exact hDs)) (by omega)
    have c8 : (W.putObj D (.deferred none)).cell? ⟨w.heap.size + 1 + 1, 0, none⟩ = some (.iface 190 (.pointer (some aC))) := hXp.br.cell 0
    have HFin : Hid (RetWr w g f m sb h (nextH h1 ch) v (.slice An ln cn) aC (putP s0 h1 ch) (.returned (.iface 190 (.pointer (some aC)))) (W.putObj D (.deferred none))) :=
      Lib.hid (by rw [hpp]; exact ⟨m, .inl rfl, hDk, hXp.fr.more (by simp), .inr ⟨hX.ok, rfl, hXp.st⟩⟩)
    clear hp1 hp2 hr hpp hDk hXp hX
    gi_wp2
    refine ⟨by simp, .inl ⟨_, _, rfl, run_takeDeferred hK, ?_⟩⟩
    exact ⟨_, by simp [results, Tryz.results28, go_sem, c8], HFin.out⟩
end Go.Proofs.YtmpklljiddggpaaGreatDoor

/-
  The walk of a store's rewrite. Conditions: each theorem's own premises.
-/
namespace Go.Proofs.YtmpklljiddggpaaGreatDoor
open Go.Shelf Go.RowKit Go.Lib Go.Sort
attribute [local go_sem] Oper.semAt_some

/-- What bounds a store's numbers. -/
structure Bd (t : St) : Prop where
  inv : Inv' t
  arm : -9223372036854775808 ≤ t.s.armed ∧ t.s.armed ≤ 9223372036854775807
  calls : 0 ≤ t.s.calls ∧ t.s.calls < 2305843009213693952
/-- What a store's rewrite leaves. -/
def RetRw (w : World) (g f m sb : Nat) (v vn : Value) (aR aC aF aM : Addr) (x : Res × St) (e : Ending) (w' : World) : Prop :=
  ∃ m', (m' = m ∨ w.heap.size ≤ m') ∧ Dk w' g f m' x.2.s ∧ Fr [g, f, m, sb] w w' ∧ e = .returned (resV aR aC aF aM x.1) ∧ ((x.1 = .fine ∧ StAt w' sb g x.2.h vn) ∨ (x.1 ≠ .fine ∧ StAt w' sb g x.2.h v))
theorem RetWr.fin {w w' : World} {g f m sb : Nat} {h h' : Hd} {v vn : Value} {aR aC aF aM : Addr} {x : Bool × DS} {e : Ending} {r r' : List Chg} (H : RetWr w g f m sb h h' v vn aC x e w') : RetRw w g f m sb v vn aR aC aF aM (fin x h h' r r') e w' := by
  obtain ⟨m', h1, h2, h3, ⟨h4, rfl, h5⟩ | ⟨h4, rfl, h5⟩⟩ := H
  · unfold Go.Proofs.YtmpklljiddggpaaGreatDoor.fin
    rw [h4]
    exact ⟨m', h1, h2, h3, rfl, .inl ⟨rfl, h5⟩⟩
  · unfold Go.Proofs.YtmpklljiddggpaaGreatDoor.fin
    rw [h4]
    exact ⟨m', h1, h2, h3, rfl, .inr ⟨by simp, h5⟩⟩
theorem RetRw.ret {w w' : World} {g f m sb : Nat} {v vn : Value} {aR aC aF aM : Addr} {x : Res × St} {e : Ending} (H : RetRw w g f m sb v vn aR aC aF aM x e w') : ∃ u, e = .returned u := ⟨_, H.choose_spec.2.2.2.1⟩
theorem RetRw.back {w w0 w' : World} {g f m sb : Nat} {v vn : Value} {aR aC aF aM : Addr} {x : Res × St} {e : Ending} (H : RetRw w g f m sb v vn aR aC aF aM x e w') (hb : Below w0.heap.size w0 w) : RetRw w0 g f m sb v vn aR aC aF aM x e w' := by
  obtain ⟨m', h1, h2, h3, h4⟩ := H
  have := hb.size
  exact ⟨m', by omega, h2, ((Fr.refl [g, f, m, sb] w0).belows hb (Nat.le_refl _)).trans h3 (by simp), h4⟩

set_option maxRecDepth 100000 in
set_option maxHeartbeats 4000000 in
theorem rewrite_any (g f m sb : Nat) (t : St) (v : Value) (A : Option Addr) (c : Nat) (nx : List Chg) (w : World) (aE aS aR aC aF aM : Addr) (hD : Dk w g f m t.s) (hS : StAt w sb g t.h v) (hB : Bd t) (he : Errs w aE aS aR) (hE : Es w aR aC aF aM) (hlow : 1 < g ∧ 3 < g ∧ 2 < g ∧ 0 < g) (hlf : 1 < f ∧ 3 < f ∧ 2 < f ∧ 0 < f)
    (hC : Chs w w.heap.size A nx) (hok : ∀ c ∈ nx, OkC c) (hl : nx.length ≤ 1000000) (hsd : sb ≠ g ∧ sb ≠ f ∧ sb ≠ m) :
    Calls Tryz.prog 29 #[.pointer (some ⟨sb, 0, none⟩), .slice A nx.length c] w (RetRw w g f m sb v (.slice A nx.length c) aR aC aF aM (rewr t nx)) := by
  obtain ⟨L, hH, hr⟩ := hB.inv.has
  have hage := hB.inv.age
  have hage0 := hH.age
  have hca := hB.calls
  have hlk := lookD_rest hB.inv.pend
  have hn1 := hD.n1
  have hnm := hD.nm
  have hsec := sectors_any A c w.heap.size nx w.drew (hC.keep fun _ _ => rfl) (Nat.le_refl _) hok hl
  have HRo := Lib.hid (fun (w1 : World) (hB1 : Below w.drew.heap.size w.drew w1) => (by
    obtain ⟨k, hHd, _⟩ := (Dk.below (w := w.drew) (hD.fr ((Fr.refl [] w).drew 1) (by simp) (by simp) (by simp)) hB1).head
    exact room_any g f m t.s.kept.length k _ _ _ w1 hHd hn1 hnm : Calls Tryz.prog 48 #[.pointer (some ⟨g, 0, none⟩)] w1 fun e w' => e = .returned (.int .i64 (roomN t.s.kept.length : Int)) ∧ w1 = w'))
  have HRh := Lib.hid (fun (w1 : World) (hB1 : Below w.heap.size w w1) => readHead_any t.h g f m t.s w1 aE aS aR (hD.below hB1) (he.below hB1 (Nat.le_refl _)) hB.inv.down (by rw [hlk]; exact hH.hd) ⟨hH.age, by omega⟩ hH.half hH.used)
  have HWr := Lib.hid (fun (w1 : World) (hB1 : Below w.heap.size w w1) (hrm : secs nx ≤ roomN t.s.kept.length) => write_any g f m sb t.s t.h (otherH t.h) v (.slice A nx.length c) A c nx w1 aR aC aF aM (hD.below hB1) (Blk.below hS hB1 (Blk.lt hS)) (hE.fr ((Fr.refl [] w).belows hB1 (Nat.le_refl _)) (by simp)) hlow hlf ((hC.below hB1).more hB1.size) hok hl (by show 1 - t.h.half ≤ 1; omega) (by show 0 + _ ≤ _; omega) ⟨hage0, by show t.h.age < _; omega⟩ hB.arm hB.calls hsd A nx.length c rfl)
  have HRw := Lib.hid (show rewr t nx = if roomN t.s.kept.length < secs nx then (.full, t) else fin (putP t.s (otherH t.h) nx) t.h (nextH (otherH t.h) nx) t.r nx from rfl)
  have s0 : w.cell? ⟨sb, 0, none⟩ = some (.pointer (some ⟨g, 0, none⟩)) := Blk.cell hS 0
  have HCB := Lib.hid (fun (p : Addr) (u : Value) (hu : w.cell? p = some u) (w8 : World) (hB8 : Below w.drew.heap.size w.drew w8) => cell_below (w := w.drew) hu hB8 (Nat.le_refl _))
  have HS := Lib.hid hS
  have HD := Lib.hid hD
  have HE := Lib.hid hE
  have hhf := hH.half
  have hsl := Blk.lt hS
  have HB0 := Lib.hid hB
  have hrn : roomN t.s.kept.length ≤ 8192 := by unfold roomN; omega
  have hsn : secs nx ≤ 1000000000 := by have := encL_length_le hok; unfold secs; omega
  clear hD hS hB he hE hC hok hH hr hlk hage
  generalize hR : roomN t.s.kept.length = R at *
  generalize hSn : secs nx = Sn at *
  go_enter Tryz.func29, Tryz.ntmps29
  go_wp2_with fail
  by_cases hc : R < Sn
  · have hcI : (R : Int) < (Sn : Int) := by omega
    go_region_held3 (fun W => W.cell? ⟨sb, 0, none⟩ = some (.pointer (some ⟨g, 0, none⟩))) (go_keep)
      (first
        | (go_at_call 47; refine hsec.mono ?_; rintro e w1 ⟨rfl, hB1⟩; have i1 := HCB.out _ _ s0 _ hB1; have hro := HRo.out w1 hB1; have HB1 := Lib.hid hB1; clear hB1)
        | (go_at_call 48; refine hro.mono ?_; rintro e w2 ⟨rfl, rfl⟩))
    have gF : w1.cell? ⟨2, 0, none⟩ = some (.iface 190 (.pointer (some aF))) := HCB.out _ _ HE.out.f _ HB1.out
    have hF : Fr [] w w1 := ((Fr.refl [] w).drew 1).belows HB1.out (Nat.le_refl _)
    have HF := Lib.hid hF
    clear hF
    go_wp2
    go_ret
    rw [HRw.out, if_pos hc]
    exact ⟨m, .inl rfl, HD.out.fr HF.out (by simp) (by simp) (by simp), HF.out.more (by simp), rfl, .inr ⟨by simp, Blk.fr HS.out HF.out (by simp)⟩⟩
  · have hcI : ¬ (R : Int) < (Sn : Int) := by omega
    go_region_held3 (fun W => W.cell? ⟨sb, 0, none⟩ = some (.pointer (some ⟨g, 0, none⟩))) (go_keep)
      (first
        | (go_at_call 47; refine hsec.mono ?_; rintro e w1 ⟨rfl, hB1⟩; have i1 := HCB.out _ _ s0 _ hB1; have hro := HRo.out w1 hB1; have HB1 := Lib.hid hB1; clear hB1)
        | (go_at_call 48; refine hro.mono ?_; rintro e w2 ⟨rfl, rfl⟩))
    have hB01 : Below w.heap.size w w1 := ((Fr.refl [] w).drew 1).belows HB1.out (Nat.le_refl _) |>.below (Nat.le_refl _) (by simp)
    have hrh := HRh.out w1 hB01
    have HB01 := Lib.hid hB01
    have hw1 := hB01.size
    clear hB01 hsec
    unfold RetHd hdV at hrh
    go_wp2_with fail
    refine hrh.mono ?_
    rintro e w3 ⟨rfl, hB3⟩
    have h4b : Blk (w3.alloc (.cells #[.int .i64 t.h.age, .int .i64 (t.h.half : Int), .int .i64 (t.h.used : Int)] 68)) w3.heap.size 68 #[.int .i64 t.h.age, .int .i64 (t.h.half : Int), .int .i64 (t.h.used : Int)] := heap_alloc_new w3 _
    have hB03 := HB01.out.trans (hB3.mono hw1)
    have hB04 : Below w.heap.size w (w3.alloc (.cells #[.int .i64 t.h.age, .int .i64 (t.h.half : Int), .int .i64 (t.h.used : Int)] 68)) := hB03.alloc hB03.size _
    have hwr := HWr.out _ hB04 (by omega)
    have b0 := h4b.cell 0
    have b1 := h4b.cell 1
    have HB04 := Lib.hid hB04
    have hoh : (1 : Int) - (t.h.half : Int) = ((1 - t.h.half : Nat) : Int) := by omega
    have hwq := hwr.mono fun _ _ hx => RetRw.back (RetWr.fin (aR := aR) (aF := aF) (aM := aM) (r := t.r) (r' := nx) hx) HB04.out
    have HQ : rewr t nx = _ := HRw.out.trans (if_neg hc)
    rw [← HQ] at hwq
    clear hwr
    have HQ2 := Lib.hid HQ
    clear HQ
    clear hrh hB3 hB03 hB04 h4b
    go_wp2_with fail
    refine hwq.mono ?_
    intro e w5 h5
    obtain ⟨u, rfl⟩ := h5.ret
    have H5 := Lib.hid h5
    clear h5
    go_wp2
    go_ret
    exact H5.out
end Go.Proofs.YtmpklljiddggpaaGreatDoor
