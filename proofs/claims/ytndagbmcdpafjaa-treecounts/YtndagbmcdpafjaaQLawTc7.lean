/-
  The walk of TreeCounts. Conditions: none.
-/
import Derived.Test.YtndagbmcdpafjaaQTrM
import Derived.Test.YtndagbmcdpafjaaQTrB
import Derived.Test.YtndagbmcdpafjaaQNumb
namespace Go.Proofs.Ytndagbmcdpafjaa
open Go.RowKit Go.Lib Go.Sort Go.Shelf
attribute [local go_sem] Oper.semAt_some

/-- A chain of so many: as deep as it is long. -/
structure Chn (W : World) (b0 : Nat) (e : Ex) (k : Nat) : Prop where
  dep : e.dep = k + 1
  cnt : e.cnt = k + 1
  slim : e.slim 100000 = true
  lies : e.Lies W (fun b => b0 < b ∧ b < W.heap.size)
  blk : Blk W b0 26 #[.int .i64 e.op, .int .i64 e.pos, .int .i64 e.n, .string ⟨e.name.toArray⟩, .slice e.A e.l.length e.c]

theorem Chn.start (w : World) : Chn (w.alloc (.cells #[.int .i64 1, .int .i64 0, .int .i64 0, .string { data := #[] }, .slice none 0 0] 26)) w.heap.size (.mk 1 0 0 [] none 0 []) 0 :=
  ⟨rfl, rfl, rfl, lies_bare _ _ _ _ _ _, heap_alloc_new w _⟩
/-- One longer. -/
theorem Chn.step {W : World} {b0 k : Nat} {e : Ex} (h : Chn W b0 e k) :
    Chn ((((((W.alloc (.cells #[.int .i64 e.op, .int .i64 e.pos, .int .i64 e.n, .string ⟨e.name.toArray⟩, .slice e.A e.l.length e.c] 26)).setCell ⟨b0, 0, none⟩ (.int .i64 4)).setCell ⟨b0, 1, none⟩ (.int .i64 0)).setCell ⟨b0, 2, none⟩ (.int .i64 0)).setCell ⟨b0, 3, none⟩ (.string { data := #[] })).setCell ⟨b0, 4, none⟩ (.slice (some ⟨W.heap.size, 0, none⟩) 1 1)) b0 (.mk 4 0 0 [] (some ⟨W.heap.size, 0, none⟩) 1 [e]) (k + 1) := by
  have hlt := h.blk.lt
  have hF := five_set (h.blk.alloc (.cells #[.int .i64 e.op, .int .i64 e.pos, .int .i64 e.n, .string ⟨e.name.toArray⟩, .slice e.A e.l.length e.c] 26)) (.int .i64 4) (.int .i64 0) (.int .i64 0) (.string { data := #[] }) (.slice (some ⟨W.heap.size, 0, none⟩) 1 1)
  have hO := five_other (W.alloc (.cells #[.int .i64 e.op, .int .i64 e.pos, .int .i64 e.n, .string ⟨e.name.toArray⟩, .slice e.A e.l.length e.c] 26)) b0 (.int .i64 4) (.int .i64 0) (.int .i64 0) (.string { data := #[] }) (.slice (some ⟨W.heap.size, 0, none⟩) 1 1)
  have hX := xs_built W (fun b => b0 < b ∧ b < W.heap.size + 1) [e] ⟨hlt, by omega⟩ (by simp [maxLen]) (fun x hx => by
    obtain rfl : x = e := by simpa using hx
    exact Ex.Lies.keep (fun b hb => ⟨hb.1, by omega⟩) (fun p hp => World.cell?_alloc_lt _ _ _ hp.2) x h.lies)
  refine ⟨?_, ?_, ?_, ?_, hF⟩
  · rw [Ex.dep_eq]; simp [Ex.l, depL, h.dep]
  · rw [Ex.cnt_eq]; simp [Ex.l, cntL, h.cnt]; omega
  · rw [Ex.slim_eq]; simp [Ex.l, slimL, h.slim]
  · refine Xs.lies (e := .mk 4 0 0 [] (some ⟨W.heap.size, 0, none⟩) 1 [e]) ?_
    exact Xs.keep hX (fun b hb => ⟨hb.1, by simp; exact hb.2⟩) (fun p hp => World.cell?_of_block (hO _ (by have := hp.1; omega)))

theorem cntL_er : ∀ l : List Ex, cntL (erL l) = cntL l
  | [] => rfl
  | e :: r => by rw [erL, cntL, cntL, Ex.er_cnt, cntL_er r]
theorem depL_er : ∀ l : List Ex, depL (erL l) = depL l
  | [] => rfl
  | e :: r => by rw [erL, depL, depL, Ex.er_dep, depL_er r]
theorem Ex.er_slim (m : Nat) (e : Ex) : e.er.slim m = e.slim m := by
  refine Ex.ind (P := fun e => e.er.slim m = e.slim m) ?_ e
  intro e ih
  suffices ∀ l : List Ex, (∀ x ∈ l, x.er.slim m = x.slim m) → slimL m (erL l) = slimL m l by
    rw [Ex.slim_eq m e, Ex.er_eq, Ex.slim_eq]
    show (decide ((erL e.l).length ≤ m) && slimL m (erL e.l)) = _
    rw [this _ ih, erL_length]
  intro l
  induction l with
  | nil => intro _; rfl
  | cons a r ihr =>
    intro h
    rw [erL, slimL, slimL, h a (by simp), ihr (fun x hx => h x (by simp [hx]))]
theorem slimL_er (m : Nat) : ∀ l : List Ex, slimL m (erL l) = slimL m l
  | [] => rfl
  | e :: r => by rw [erL, slimL, slimL, Ex.er_slim, slimL_er m r]
theorem cntL_rep (e : Ex) : ∀ n : Nat, cntL (List.replicate n e) = n * e.cnt
  | 0 => by simp [cntL]
  | n + 1 => by rw [List.replicate_succ, cntL, cntL_rep e n, Nat.succ_mul]; omega
theorem depL_rep (e : Ex) : ∀ n : Nat, depL (List.replicate n e) ≤ e.dep
  | 0 => by simp [depL]
  | n + 1 => by
    have := depL_rep e n
    rw [List.replicate_succ, depL]
    omega
theorem slimL_rep (e : Ex) (n m : Nat) (h : e.slim m = true) : slimL m (List.replicate n e) = true := slimL_iff.2 fun x hx => by rw [List.eq_of_mem_replicate hx]; exact h
theorem xs_len {a b : List Ex} (h : erL a = erL (partsL b)) : a.length = cntL b := by
  have := erL_len h
  rw [partsL_length] at this
  exact this
/-- A range whose body reads no element. -/
theorem range_skip {F : Fence} {n : Nat} {P : Program} {α : Type} {g : Operand} {ps : Array Tmp} {body : Code} {Q : Exit → Act → World → Prop} {a : Act} {w : World}
    (hro : F.round = none) (h1 : 1 ≤ n) {gf : Nat} {lb : Array Value} (hg : a.eval g = .func (.func gf) #[] lb) (hFg : F.fn gf) (eg : ∀ args w, (callFunc gf args).run P w = .ok (.enter gf args) w)
    {encs : α → Array Value} {Kp : World → World → Prop} {El : α → World → Prop} {S Sp : List α → Prop} {N : Nat} {w0 : World} (hseq : SeqOw F (n - 1) P gf lb encs Kp El S Sp N w0)
    (hKt : ∀ {A B C : World}, Kp A B → Kp B C → Kp A C) (hKr : ∀ W : World, Kp W W) (hKb : ∀ (W : World) (l : Nat) (o o' : Obj), w.heap.size ≤ l → W.heap[l]? = some o → o.isCells = false → o.isWalk = false → Kp W (W.putObj l o')) (hb0 : Below w0.heap.size w0 w) (hps : ∀ x, (encs x).size = ps.size)
    (I : List α → World → Prop) (Ix : Code → List α → World → Prop) (hI : OwnFrom w.heap.size I) (hIx : ∀ c, OwnFrom w.heap.size (Ix c)) (h0 : I [] w)
    (hbody : ∀ (l : Nat) (pre : List α) (x : α) (W : World), w.heap.size ≤ l → I pre W → pre.length < N → body.wpIn (F.inRound l) (n - 1 - 1) P (ownPostG w.heap.size Kp I Ix (pre ++ [x]) W) { tmps := (ps.zip (encs x)).foldl (fun t (p, v) => t.setIfInBounds p v) a.tmps, defers := [] } W)
    (hdone : ∀ (D : Nat) (xs : List α) (W : World), w.heap.size ≤ D → S xs → I xs W → W.heap[D]? = some (.deferred (some [])) → Q .normal { a with defers := { target := .collected D, args := #[] } :: a.defers } W)
    (hstop : ∀ (D : Nat) (c : Code) (pre : List α) (W : World), w.heap.size ≤ D → Sp pre → Ix c pre W → W.heap[D]? = some (.deferred (some [])) → c.wpIn F n P Q { a with defers := { target := .collected D, args := #[] } :: a.defers } W) :
    (Code.rangeFunc g ps .skip body).wpIn F n P Q a w :=
  range_ow hro h1 hg hFg eg hseq hKt hKb hb0 hps I Ix hI hIx h0 (fun x a' _ => a' = { tmps := (ps.zip (encs x)).foldl (fun t (p, v) => t.setIfInBounds p v) a.tmps, defers := [] }) (fun _ _ _ _ _ _ hs _ _ => hs)
    (fun l pre x W K hi _ hK => by gi_wp2; exact hK _ _ (KeepsFrom.refl _ _) (hKr _) hi (by have := hps x; simp [this])) (fun l pre x a' W hl _ hi ha hlen => by subst ha; exact hbody l pre x W hl hi hlen) hdone hstop
/-- The statement's equations. -/
def qx1 (A : Option Addr) (c : Nat) (l : List Ex) : Qx := ⟨0, none, 0, [], .mk 0 0 0 [] none 0 [], [103], A, c, l, []⟩
def qx2 (e : Ex) : Qx := ⟨0, none, 0, [], e, [], none, 0, [], []⟩
theorem qs_built {W : World} {A : Option Addr} {c : Nat} {l : List Ex} {e : Ex} (hl : Xs W (· < W.heap.size) A c l) (he : e.Lies W (· < W.heap.size)) (o : Obj) :
    Qs ((W.alloc (.cells (LQ.cells [qx1 A c l, qx2 e]).toArray LQ.ty)).alloc o) (· < ((W.alloc (.cells (LQ.cells [qx1 A c l, qx2 e]).toArray LQ.ty)).alloc o).heap.size) (some ⟨W.heap.size, 0, none⟩) [qx1 A c l, qx2 e] := by
  have hB : Below W.heap.size W ((W.alloc (.cells (LQ.cells [qx1 A c l, qx2 e]).toArray LQ.ty)).alloc o) := ((Below.refl _ _).alloc (Nat.le_refl _) _).alloc (by simp) _
  refine ⟨fun _ => ⟨_, _, rfl, by simp; omega⟩, fun b o2 h j u hu => ?_, fun q hq => ?_⟩
  · cases h
    have hb : Blk ((W.alloc (.cells (LQ.cells [qx1 A c l, qx2 e]).toArray LQ.ty)).alloc o) W.heap.size LQ.ty _ := Blk.alloc (heap_alloc_new W _) _
    rw [Nat.zero_add, hb.cell j]
    simpa using hu
  · simp only [List.mem_cons, List.mem_nil_iff, or_false] at hq
    rcases hq with rfl | rfl
    · exact ⟨lies_bare _ _ _ _ _ _, hl.keep (fun b hb => by have := hB.size; omega) fun p hp => hB.cell hp⟩
    · exact ⟨Ex.Lies.keep (fun b hb => by have := hB.size; omega) (fun p hp => hB.cell hp) e he, Xs.nil _ _⟩

set_option maxRecDepth 100000 in
set_option maxHeartbeats 4000000 in
theorem treeCounts_walk (a0 a1 : Int) (w : World) (_ : (Lit.int .i64 a0).wf = true) (_ : (Lit.int .i64 a1).wf = true) : Calls Try.prog 4 #[.int .i64 a0, .int .i64 a1] w (RetYes w) := by
  have HF := Lib.hid (first_any w)
  have HN1 := Lib.hid (fun W => number_any a0 20 W (by omega) (by omega))
  have HN2 := Lib.hid (fun W => number_any a1 4 W (by omega) (by omega))
  obtain ⟨N, hN⟩ : ∃ N : Nat, a0 % 20 = (N : Int) := ⟨(a0 % 20).toNat, by omega⟩
  obtain ⟨M, hM⟩ : ∃ M : Nat, a1 % 4 = (M : Int) := ⟨(a1 % 4).toNat, by omega⟩
  have hN2 : N < 20 := by omega
  have hM2 : M < 4 := by omega
  rw [hN] at HN1
  rw [hM] at HN2
  clear hN hM
  refine (callsIn_wide (n := 4)).1 ?_
  refine callsIn_of_wp_marks Try.func4 rfl trivial ?_ rfl
  simp only [Try.ntmps4, List.size_toArray, List.length_cons, List.length_nil, Nat.reduceAdd, Nat.reduceSub, Array.replicate_succ, Array.replicate_zero, List.push_toArray, List.append_toArray, List.nil_append, List.cons_append]
  refine wpIn_wide.2 ?_
  go_wp2_with fail
  refine HF.out.mono ?_
  rintro e w1 ⟨rfl, hB⟩
  have HB1 := Lib.hid hB
  clear hB HF
  go_wp2_with fail
  refine (HN1.out _).mono ?_
  rintro e w1' ⟨rfl, rfl⟩
  go_wp2_with fail
  refine (HN2.out _).mono ?_
  rintro e w1' ⟨rfl, rfl⟩
  clear HN1 HN2
  go_wp2_with fail
  have HC0 := Lib.hid (Chn.start w1)
  have HB2 := Lib.hid (HB1.out.alloc HB1.out.size (.cells #[.int .i64 1, .int .i64 0, .int .i64 0, .string { data := #[] }, .slice none 0 0] 26))
  have hz1 := HB1.out.size
  go_loopw [7] (fun i wr => ∃ (k : Nat) (e : Ex), k ≤ N ∧ i = .int .i64 (k : Int) ∧ Chn wr w1.heap.size e k ∧ Below w.heap.size w wr) (fun i _ => N - (RowKit.intOf i).toNat)
  case atStart => exact ⟨0, _, Nat.zero_le _, rfl, HC0.out, HB2.out⟩
  case round =>
    obtain ⟨k, e, hk, rfl, hC, hB⟩ := hrel
    by_cases hp : k < N
    · have HS := Lib.hid hC.step
      have HBr := Lib.hid hB
      obtain ⟨⟨k0, k1, k2, k3, k4⟩, -⟩ := blkx hC.blk
      obtain ⟨⟨m0, m1, m2, m3, m4⟩, f0, f1, f2, f3, f4⟩ := blkx (hC.blk.alloc (.cells #[.int .i64 e.op, .int .i64 e.pos, .int .i64 e.n, .string ⟨e.name.toArray⟩, .slice e.A e.l.length e.c] 26))
      have HBs := Lib.hid ((((((hB.alloc hB.size (.cells #[.int .i64 e.op, .int .i64 e.pos, .int .i64 e.n, .string ⟨e.name.toArray⟩, .slice e.A e.l.length e.c] 26)).setCell (p := ⟨w1.heap.size, 0, none⟩) hz1 (.int .i64 4)).setCell (p := ⟨w1.heap.size, 1, none⟩) hz1 (.int .i64 0)).setCell (p := ⟨w1.heap.size, 2, none⟩) hz1 (.int .i64 0)).setCell (p := ⟨w1.heap.size, 3, none⟩) hz1 (.string { data := #[] })).setCell (p := ⟨w1.heap.size, 4, none⟩) hz1 (.slice (some ⟨wr.heap.size, 0, none⟩) 1 1))
      clear hC hB HBr
      go_wp2
      go_roundw
      case rel => exact ⟨k + 1, _, by omega, by go_num, HS.out, HBs.out⟩
      case measure => simp [RowKit.intOf]; omega
    · obtain rfl : k = N := by omega
      have HC := Lib.hid hC
      have HBr := Lib.hid hB
      clear hC hB HC0 HB2
      obtain ⟨W3, hW3⟩ : ∃ W3, W3 = wr := ⟨_, rfl⟩
      rw [← hW3] at HC HBr ⊢
      clear hW3
      go_wp2_with fail
      go_loopw [8, 9] (fun v i wr => ∃ (j : Nat) (A : Option Addr) (c : Nat), j ≤ M + 1 ∧ i = .int .i64 (j : Int) ∧ v = .slice A j c ∧ Ow LX wr W3.heap.size (.slice A j c) (List.replicate j e) ∧ Below W3.heap.size W3 wr) (fun _ i _ => M + 1 - (RowKit.intOf i).toNat)
      case atStart => exact ⟨0, none, 0, Nat.zero_le _, rfl, rfl, Ow.nil LX _ _, Below.refl _ _⟩
      case round =>
        obtain ⟨j, A, c, hj, rfl, rfl, hO, hB⟩ := hrel
        by_cases hp : j < M + 1
        · obtain ⟨v1, W1, hrun, hO1, hB1, -, -, -⟩ := append_ow_one2 LXat e hO (by simp; omega) hB.size
          obtain ⟨A1, cx, rfl⟩ : ∃ A c, v1 = .slice A (j + 1) c := by
            obtain ⟨A, c, h, _⟩ := hO1.rw
            exact ⟨A, c, by rw [h]; simp⟩
          have HRun : Hid (∀ ty, (Builtin.append_ #[22, 22] ty #[.slice A j c, .slice (some ⟨wr.heap.size, 0, none⟩) 1 1]).run Try.prog (wr.alloc (.cells #[.int .i64 e.op, .int .i64 e.pos, .int .i64 e.n, .string ⟨e.name.toArray⟩, .slice e.A e.l.length e.c] 26)) = .ok (.slice A1 (j + 1) cx) W1) := Lib.hid hrun
          have HO1 : Hid (Ow LX W1 W3.heap.size (.slice A1 (j + 1) cx) (List.replicate (j + 1) e)) := Lib.hid (by rw [List.replicate_succ']; exact hO1)
          have HBn := Lib.hid (hB.trans hB1)
          obtain ⟨⟨k0, k1, k2, k3, k4⟩, -⟩ := blkx (HC.out.blk.below hB HC.out.blk.lt)
          clear hrun hO hO1 hB1 hB
          go_wp2_with (at_builtin; refine wpList_append_eq rfl _ _ 22 rfl _ _ (.slice A1 (j + 1) cx) W1 rfl rfl (HRun.out _) ?_)
          go_roundw
          case rel => exact ⟨j + 1, A1, cx, by omega, by go_num, rfl, HO1.out, HBn.out⟩
          case measure => simp [RowKit.intOf]; omega
        · obtain rfl : j = M + 1 := by omega
          have HO := Lib.hid hO
          have HB3 := Lib.hid hB
          clear hO hB
          obtain ⟨W4, hW4⟩ : ∃ W4, W4 = wr := ⟨_, rfl⟩
          rw [← hW4] at HO HB3 ⊢
          clear hW4
          obtain ⟨⟨k0, k1, k2, k3, k4⟩, -⟩ := blkx (HC.out.blk.below HB3.out HC.out.blk.lt)
          go_wp2_with fail
          have hLe : e.Lies W4 (fun b => w1.heap.size < b ∧ b < W3.heap.size) := Ex.Lies.keep (fun _ h => h) (fun p hp => HB3.out.cell hp.2) e HC.out.lies
          have hz3 := HB3.out.size
          have hLe2 : e.Lies W4 (· < W4.heap.size) := Ex.Lies.keep (fun b hb => by have := hb.2; omega) (fun _ _ => rfl) e hLe
          obtain ⟨A', c', hAc, hXl⟩ := HO.out.xs (K := (· < W4.heap.size)) (fun x hx => by rw [List.eq_of_mem_replicate hx]; exact hLe2) (fun b _ h => h)
          obtain ⟨rfl, rfl⟩ : A = A' ∧ c = c' := by rw [List.length_replicate] at hAc; cases hAc; exact ⟨rfl, rfl⟩
          have hQ := qs_built hXl hLe2 (.cells #[.string { data := #[] }, .slice none 0 0, .slice none 0 0, .slice none 0 0, .slice (some ⟨W4.heap.size, 0, none⟩) 2 2] 40)
          obtain ⟨W5, hW5⟩ : ∃ W5, W5 = ((W4.alloc (.cells #[.int .i64 0, .slice none 0 0, .int .i64 0, .int .i64 0, .int .i64 0, .string { data := #[] }, .slice none 0 0, .string { data := #[103] }, .slice A (M + 1) c, .string { data := #[] }, .int .i64 0, .slice none 0 0, .int .i64 e.op, .int .i64 e.pos, .int .i64 e.n, .string ⟨e.name.toArray⟩, .slice e.A e.l.length e.c, .string { data := #[] }, .slice none 0 0, .string { data := #[] }] 36)).alloc (.cells #[.string { data := #[] }, .slice none 0 0, .slice none 0 0, .slice none 0 0, .slice (some ⟨W4.heap.size, 0, none⟩) 2 2] 40)) := ⟨_, rfl⟩
          rw [show (LQ.cells [qx1 A c (List.replicate (M + 1) e), qx2 e]).toArray = #[.int .i64 0, .slice none 0 0, .int .i64 0, .int .i64 0, .int .i64 0, .string { data := #[] }, .slice none 0 0, .string { data := #[103] }, .slice A (M + 1) c, .string { data := #[] }, .int .i64 0, .slice none 0 0, .int .i64 e.op, .int .i64 e.pos, .int .i64 e.n, .string ⟨e.name.toArray⟩, .slice e.A e.l.length e.c, .string { data := #[] }, .slice none 0 0, .string { data := #[] }] by simp [Lie.cells, LQ, Qx.vals, qx1, qx2, Ex.op, Ex.pos, Ex.n, Ex.name, Ex.A, Ex.c, Ex.l], show LQ.ty = 36 from rfl, ← hW5] at hQ
          have hB5 : Below W4.heap.size W4 W5 := by rw [hW5]; exact ((Below.refl _ _).alloc (Nat.le_refl _) _).alloc (by simp) _
          have hz5 : W5.heap.size = W4.heap.size + 1 + 1 := by rw [hW5]; simp
          have hbn : Blk W5 (W4.heap.size + 1) 40 #[.string { data := #[] }, .slice none 0 0, .slice none 0 0, .slice none 0 0, .slice (some ⟨W4.heap.size, 0, none⟩) 2 2] := by rw [hW5]; exact blk_new (by simp)
          rw [← hW5]
          clear hW5
          have hB6 : Below W5.heap.size W5 (W5.alloc (.cells #[.int .i64 0] 3)) := (Below.refl _ _).alloc (Nat.le_refl _) _
          have hX6 : Xs (W5.alloc (.cells #[.int .i64 0] 3)) (· < W4.heap.size) A c (List.replicate (M + 1) e) := hXl.keep (fun _ h => h) fun p hp => (hB6.cell (by omega)).trans (hB5.cell hp)
          have HPm := Lib.hid (parts_mk (k + 1) A c (List.replicate (M + 1) e) W4.heap.size _ (Nat.le_trans (depL_rep e _) (Nat.le_of_eq HC.out.dep)) (by simp; omega) (slimL_rep e _ _ HC.out.slim) hX6 (by simp; omega))
          rw [List.length_replicate] at HPm
          have hbk : Blk (W5.alloc (.cells #[.int .i64 0] 3)) (W4.heap.size + 1 + 1) 3 #[.int .i64 0] := blk_new hz5
          have hz6 : (W5.alloc (.cells #[.int .i64 0] 3)).heap.size = W4.heap.size + 1 + 1 + 1 := by simp; omega
          obtain ⟨W6, hW6⟩ : ∃ W6, W6 = W5.alloc (.cells #[.int .i64 0] 3) := ⟨_, rfl⟩
          rw [← hW6] at HPm hbk hz6 hB6 ⊢
          clear hW6
          refine HPm.out.mono ?_
          rintro e7 w7 ⟨A2, cy, l', b, rfl, hbW, hbb, hx2, hel, hB7⟩
          have hb7 : b < w7.heap.size := hbb.lt
          have HPe := Lib.hid (parts_el (4 - 1) b (fun j => W6.heap.size ≤ j ∧ j < b) (· = W4.heap.size + 1 + 1) A2 cy (k + 1) l' w7 (by rw [← depL_er, hel, depL_er]; exact Nat.le_trans (depL_rep e _) (Nat.le_of_eq HC.out.dep)) (by rw [erL_len hel]; simp; omega) (by rw [← slimL_er, hel, slimL_er]; exact slimL_rep e _ _ HC.out.slim) hx2 (fun j hj => by omega) (fun j hj h => by omega) (fun j hj => by have := hB7.size; omega) hb7 (by rw [erL_len hel]; exact hbb.cell 0))
          have hI0 : CtI W5 (W4.heap.size + 1 + 1) w7.heap.size [] w7 := ⟨hB6.trans (hB7.mono (by omega)), hbk.below hB7 (by omega), Nat.le_refl _⟩
          have hOI := Lib.hid (show OwnFrom w7.heap.size (CtI W5 (W4.heap.size + 1 + 1) w7.heap.size) from fun s A B row hs hg hr => ⟨hs.1.grown hg hs.1.size (fun k e => by have := (hr k e).1; have := hB7.size; omega), blk_ow hs.2.1 hg hr, Nat.le_trans hs.2.2 hg.size⟩)
          have hLn : cntL l' = (M + 1) * (k + 1) := by rw [← cntL_er, hel, cntL_er, cntL_rep, HC.out.cnt]
          have hz7 := hB7.size
          clear hx2 hbb hbk hB6
          go_wp2_with fail
          refine (wpIn_wide (n := 4)).1 ?_
          refine range_skip rfl (by omega) (gf := 21) (lb := #[.pointer (some ⟨b, 0, none⟩)]) rfl trivial (enters_of Try.func21 (by kernel_rfl) rfl) HPe.out KpC.trans (KpC.refl _)
            (fun W l o o' hl ho hc _ => KpC.putObj W l o o' ho hc) (Below.refl _ _) (fun x => rfl)
            (CtI W5 (W4.heap.size + 1 + 1) w7.heap.size) (fun _ _ _ => False) hOI.out (fun _ _ _ _ _ hs _ _ => hs) hI0 ?body ?done ?stop
          case body =>
            rintro lp2 pre x W' hlp ⟨hbw, hbc, hn⟩ hlen
            have k0 : W'.cell? ⟨W4.heap.size + 1 + 1, 0, none⟩ = some (.int .i64 (pre.length : Int)) := hbc.cell 0
            have f0 : W'.frozen? ⟨W4.heap.size + 1 + 1, 0, none⟩ = false := hbc.free 0
            have HS := Lib.hid (hbc.set 0 (.int .i64 ((pre ++ [x]).length : Int)))
            have HN : Hid ((pre.length : Int) + 1 = ((pre ++ [x]).length : Int)) := Lib.hid (by simp)
            have hpl : pre.length < 1000000 := by
              have : (M + 1) * (k + 1) ≤ 4 * 20 := Nat.mul_le_mul (by omega) (by omega)
              omega
            have HBs := Lib.hid (hbw.setCell (p := ⟨W4.heap.size + 1 + 1, 0, none⟩) (by show W5.heap.size ≤ W4.heap.size + 1 + 1; omega) (.int .i64 ((pre ++ [x]).length : Int)))
            clear hbc hbw
            gi_wp2
            rw [HN.out]
            refine ⟨(KeepsOthers.setCell _ _ _).from _, KpC.setCell _ _ _ rfl, HBs.out, HS.out, by simpa using hn⟩
          case done =>
            rintro D xs W8 hD hxs ⟨hbw, hbc, hn⟩ hK
            have hxl := xs_len hxs
            rw [hLn] at hxl
            have hc1 : (((M + 1) * (k + 1) : Nat) : Int) = ((k : Int) + 1) * ((M : Int) + 1) := by rw [Nat.mul_comm]; simp
            rw [hxl, hc1] at hbc
            have hz8 := hbw.size
            have hb0 := HC.out.blk.lt
            obtain ⟨⟨k0, k1, k2, k3, k4⟩, -⟩ := blkx (((HC.out.blk.below HB3.out hb0).below hB5 (by omega)).below hbw (by omega))
            have HLe8 : Hid (e.Lies W8 (· < W4.heap.size)) := Lib.hid (Ex.Lies.keep (fun _ h => h) (fun p hp => (hbw.cell (by omega)).trans (hB5.cell hp)) e hLe2)
            have HDp := Lib.hid (dep_any (k + 1) e W4.heap.size W8 (Nat.le_of_eq HC.out.dep) (by omega) HC.out.slim HLe8.out (by omega))
            rw [HC.out.dep, show (((k + 1 : Nat)) : Int) = (k : Int) + 1 by omega] at HDp
            unfold Ex.val at HDp
            have HBw := Lib.hid hbw
            have HBc := Lib.hid hbc
            have HQ := Lib.hid hQ
            have HBn := Lib.hid hbn
            have hD8 := (Array.getElem?_eq_some_iff.1 hK).1
            clear hbw hbc hxs hQ hbn
            go_wp2_with fail
            refine HDp.out.mono ?_
            rintro e9 w9 ⟨rfl, hB9⟩
            have hz9 := hB9.size
            have hK9 : w9.heap[D]? = some (.deferred (some [])) := (hB9.block D hD8).trans hK
            have hQ9 := HQ.out.keepV (W' := w9) (fun _ h => h) fun p v hp hv => (hB9.cell (by have := hz8; omega)).trans ((HBw.out.cell hp).trans hv)
            have hbk9 : Blk w9 _ _ _ := HBc.out.below hB9 HBc.out.lt
            obtain ⟨⟨m0, m1, m2, m3, m4⟩, -⟩ := blkx ((HBn.out.below HBw.out (by omega)).below hB9 (by omega))
            have HCt := Lib.hid (count_any { data := #[] } none none none 0 0 0 0 0 0 (some ⟨W4.heap.size, 0, none⟩) 2 (k + 1) [qx1 A c (List.replicate (M + 1) e), qx2 e] w9 (fun x hx => by
              simp only [List.mem_cons, List.mem_nil_iff, or_false] at hx
              rcases hx with rfl | rfl
              · exact ⟨Nat.le_trans (depL_rep e _) (Nat.le_of_eq HC.out.dep), by simp [Qx.exprs, qx1]; omega, slimL_rep e _ _ HC.out.slim, by simp [qx1]; omega⟩
              · exact ⟨by simp [Qx.exprs, qx2, depL, HC.out.dep], by simp [Qx.exprs, qx2], by simp [Qx.exprs, qx2, slimL, HC.out.slim], by simp [qx2]⟩) (by simp) (hQ9.keepV (fun b hb => by omega) (fun _ _ _ h => h)) (by
              have : (M + 1) * (k + 1) ≤ 4 * 20 := Nat.mul_le_mul (by omega) (by omega)
              simp [allX, Qx.exprs, qx1, qx2, cntL_append, cntL_rep, cntL, HC.out.cnt]
              omega))
            have hct : (cntL (allX [qx1 A c (List.replicate (M + 1) e), qx2 e]) : Int) = ((k : Int) + 1) * ((M : Int) + 1 + 1) := by
              have hal : allX [qx1 A c (List.replicate (M + 1) e), qx2 e] = List.replicate (M + 1) e ++ [e] := by
                unfold allX
                rw [List.flatMap_cons, List.flatMap_cons, List.flatMap_nil, List.append_nil]
                rfl
              rw [hal, cntL_append, cntL_rep, cntL, cntL, HC.out.cnt, Nat.mul_comm]
              simp only [Nat.add_zero, Int.natCast_add, Int.natCast_mul, Int.natCast_one, Int.mul_add, Int.add_mul, Int.one_mul, Int.mul_one]
            rw [hct] at HCt
            have hbd1 : ((k : Int) + 1) * ((M : Int) + 1 + 1) ≤ 100 := by
              have : ((k : Int) + 1) * ((M : Int) + 1 + 1) ≤ 20 * 5 := Int.mul_le_mul (by omega) (by omega) (by omega) (by omega)
              omega
            have hbd2 : ((k : Int) + 1) * ((M : Int) + 1) ≤ 100 := by
              have : ((k : Int) + 1) * ((M : Int) + 1) ≤ 20 * 4 := Int.mul_le_mul (by omega) (by omega) (by omega) (by omega)
              omega
            have hbd3 : 0 ≤ ((k : Int) + 1) * ((M : Int) + 1 + 1) := Int.mul_nonneg (by omega) (by omega)
            have hbd4 : 0 ≤ ((k : Int) + 1) * ((M : Int) + 1) := Int.mul_nonneg (by omega) (by omega)
            have HBk9 := Lib.hid hbk9
            have HB9 := Lib.hid hB9
            clear hQ9 hbk9 hB9 hct hc1 hxl k0 k1 k2 k3 k4
            go_wp2_with fail
            refine HCt.out.mono ?_
            rintro e10 w10 ⟨rfl, hB10⟩
            have hK10 : w10.heap[D]? = some (.deferred (some [])) := (hB10.block D (by omega)).trans hK9
            have k0 : w10.cell? ⟨W4.heap.size + 1 + 1, 0, none⟩ = some (.int .i64 (((k : Int) + 1) * ((M : Int) + 1))) := (HBk9.out.below hB10 HBk9.out.lt).cell 0
            have hz10 := hB10.size
            have HZ : Hid (Below w.heap.size w w10) := Lib.hid (((((HBr.out.trans (HB3.out.mono HBr.out.size)).trans (hB5.mono (by have := HBr.out.size; omega))).trans (HBw.out.mono (by have := HBr.out.size; omega))).trans (HB9.out.mono (by have := HBr.out.size; omega))).trans (hB10.mono (by have := HBr.out.size; omega)))
            clear hB10 m0 m1 m2 m3 m4
            go_wp2
            refine ⟨by simp, .inl ⟨_, _, rfl, run_takeDeferred hK10, ?_⟩⟩
            exact ⟨.bool true, by simp [results, Try.results4, go_sem], rfl, HZ.out.grown (grownBy_putObj' _ _ _) HZ.out.size (fun j e => by cases e; have := HBr.out.size; omega)⟩
          case stop =>
            rintro D c2 pre W3 hD hpre h hK
            exact h.elim
end Go.Proofs.Ytndagbmcdpafjaa
