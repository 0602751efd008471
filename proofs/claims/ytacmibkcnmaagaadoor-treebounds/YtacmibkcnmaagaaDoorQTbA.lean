/-
  The nodes of the law TreeBounds, as plain data: what Valid says of them. Conditions: each theorem's own premises.
-/
import Derived.Test.YtacmibkcnmaagaaDoorQTvN
import Derived.Test.YtacmibkcnmaagaaDoorQIta
import Derived.Test.YtacmibkcnmaagaaDoorQTrJ
namespace Go.Proofs.YtacmibkcnmaagaaDoor
open Go.RowKit Go.Lib

/-- A chain of signs over a number. -/
inductive ChE : Nat → Ex → Prop
  | zero : ChE 0 (.mk 1 0 0 [] none 0 [])
  | succ {k : Nat} {e : Ex} (A : Option Addr) (c : Nat) : ChE k e → ChE (k + 1) (.mk 4 0 0 [] A c [e])
theorem ChE.dep {k : Nat} {e : Ex} (h : ChE k e) : e.dep = k + 1 := by
  induction h with
  | zero => rfl
  | succ A c h ih => rw [Ex.dep_eq]; simp [Ex.l, depL, ih]
theorem ChE.cnt {k : Nat} {e : Ex} (h : ChE k e) : e.cnt = k + 1 := by
  induction h with
  | zero => rfl
  | succ A c h ih => rw [Ex.cnt_eq]; simp [Ex.l, cntL, ih]; omega
theorem ChE.slim {k : Nat} {e : Ex} (h : ChE k e) : e.slim 100000 = true := by
  induction h with
  | zero => rfl
  | succ A c h ih => rw [Ex.slim_eq]; simp [Ex.l, slimL, ih]
theorem ChE.fine {k : Nat} {e : Ex} (h : ChE k e) : partsE e.parts = none := by
  induction h with
  | zero => rfl
  | @succ k e A c h ih =>
    rw [Ex.parts_eq, show partsL (Ex.mk 4 0 0 [] A c [e]).l = e.parts by simp [Ex.l, partsL]]
    show (match partE (Ex.mk 4 0 0 [] A c [e]) with | some k => some ((Ex.mk 4 0 0 [] A c [e]).pos, k) | none => partsE e.parts) = none
    rw [show partE (Ex.mk 4 0 0 [] A c [e]) = none by rfl]
    exact ih
/-- The law's other parts. -/
def exB : Ex := .mk 2 0 1 [] none 0 []
theorem rep_fine : ∀ n : Nat, partsE (partsL (List.replicate n exB)) = none
  | 0 => rfl
  | n + 1 => by
    rw [List.replicate_succ, show partsL (exB :: List.replicate n exB) = exB :: partsL (List.replicate n exB) by rw [partsL]; rfl]
    show (match partE exB with | some k => some (exB.pos, k) | none => partsE (partsL (List.replicate n exB))) = none
    rw [show partE exB = none by rfl]
    exact rep_fine n
theorem rep_cnt : ∀ n : Nat, cntL (List.replicate n exB) = n
  | 0 => rfl
  | n + 1 => by rw [List.replicate_succ, cntL, rep_cnt n, show exB.cnt = 1 from rfl, Nat.add_comm]
theorem rep_dep : ∀ n : Nat, depL (List.replicate n exB) ≤ 1
  | 0 => Nat.zero_le _
  | n + 1 => by
    have := rep_dep n
    rw [List.replicate_succ, depL, show exB.dep = 1 from rfl]
    omega
theorem rep_slim (n : Nat) : slimL 100000 (List.replicate n exB) = true := slimL_iff.2 fun x hx => by rw [List.eq_of_mem_replicate hx]; rfl
theorem rep_any (n : Nat) : ((List.replicate n exB).any fun x => decide (24 < x.dep)) = false := by
  rw [List.any_eq_false]
  intro x hx
  rw [List.eq_of_mem_replicate hx]
  decide
/-- Its inputs. -/
def bdD (i : Nat) : Dc := ⟨0, 97 :: dig i, 1, none, 0, []⟩
def bdL (k : Nat) : List Dc := (List.range k).map bdD
theorem bdL_length (k : Nat) : (bdL k).length = k := by simp [bdL]
theorem bdL_next (k : Nat) : bdL (k + 1) = bdL k ++ [bdD k] := by simp [bdL, List.range_succ]
def bdO : Dc := ⟨0, [120], 1, none, 0, []⟩
theorem bd_names : (List.range 40).all (fun i => !badN (97 :: dig i)) = true := by kernel_rfl
theorem bdD_fine {i : Nat} (h : i < 40) (b : Bool) : declE (bdD i) b = none := by
  have := List.all_eq_true.1 bd_names i (List.mem_range.2 h)
  have hb : badN (97 :: dig i) = false := by simpa using this
  unfold declE bdD
  simp [hb]
theorem badN_x7 : badN [120] = false := by kernel_rfl
theorem badN_f7 : badN [102] = false := by kernel_rfl
theorem bdO_fine (b : Bool) : declE bdO b = none := by
  unfold declE bdO
  simp [badN_x7]
theorem declsE_fine (m : Nat) : ∀ (l : List Dc) (i : Nat), (∀ d ∈ l, ∀ b, declE d b = none) → declsE m i l = none
  | [], _, _ => rfl
  | d :: r, i, h => by
    show (match declE d (decide (m ≤ i)) with | some k => some (d.pos, k) | none => declsE m (i + 1) r) = none
    rw [h d (by simp)]
    exact declsE_fine m r (i + 1) fun x hx => h x (by simp [hx])
/-- Its equations. -/
def bdQ (lA : Addr) (e : Ex) : Qx := ⟨0, some lA, 1, [[120]], e, [], none, 0, [], []⟩
def bdP (lA : Addr) (A : Option Addr) (c : Nat) (l : List Ex) : Qx := ⟨0, some lA, 1, [[120]], .mk 0 0 0 [] none 0 [], [103], A, c, l, []⟩
/-- The node. -/
def bdN (iA : Option Addr) (ic V : Nat) (oA qA : Addr) (qc : Nat) (a1 a2 : Addr) (e : Ex) (A : Option Addr) (c M : Nat) : Ng :=
  ⟨[102], iA, ic, bdL V, some oA, 1, [bdO], none, 0, [], some qA, qc, [bdQ a1 e, bdP a2 A c (List.replicate M exB)]⟩
/-- What is amiss. -/
def bdE (V k M : Nat) : Option (Option Int × Nat) := if 32 < V + 1 ∨ 256 < k + 1 + M then some (none, 2) else if 24 < k + 1 then some (none, 7) else none
theorem bd_valid {k : Nat} {e : Ex} (h : ChE k e) (iA : Option Addr) (ic V : Nat) (oA qA : Addr) (qc : Nat) (a1 a2 : Addr) (A : Option Addr) (c M : Nat) (hV : V ≤ 40) : validE (bdN iA ic V oA qA qc a1 a2 e A c M) = bdE V k M := by
  have hm : manyB (bdN iA ic V oA qA qc a1 a2 e A c M) = decide (32 < V + 1 ∨ 256 < k + 1 + M) := by
    unfold manyB bdN
    simp only [bdL_length, List.length_cons, List.length_nil, allX, List.flatMap_cons, List.flatMap_nil, bdQ, bdP, Qx.exprs]
    simp only [if_true, show ¬ ([103] : List UInt8) = [] by decide, if_false, List.append_nil, List.cons_append, List.nil_append, cntL, h.cnt, rep_cnt]
    rw [Bool.eq_iff_iff]
    simp
  have hd : (bdN iA ic V oA qA qc a1 a2 e A c M).eqs.any deepQ = decide (24 < k + 1) := by
    show ([bdQ a1 e, bdP a2 A c (List.replicate M exB)]).any deepQ = _
    simp only [List.any_cons, List.any_nil, deepQ, bdQ, bdP, h.dep, rep_any]
    simp [Ex.dep, depL]
  have hl : declsE ((bdN iA ic V oA qA qc a1 a2 e A c M).ins.length + (bdN iA ic V oA qA qc a1 a2 e A c M).outs.length) 0 ((bdN iA ic V oA qA qc a1 a2 e A c M).ins ++ ((bdN iA ic V oA qA qc a1 a2 e A c M).outs ++ (bdN iA ic V oA qA qc a1 a2 e A c M).locs)) = none := declsE_fine _ _ _ fun d hd b => by
    rcases List.mem_append.1 hd with h1 | h1
    · obtain ⟨i, hi, rfl⟩ := List.mem_map.1 h1
      exact bdD_fine (by have := List.mem_range.1 hi; omega) b
    · rw [show d = bdO by simpa [bdN] using h1]
      exact bdO_fine b
  have hq : eqsE (bdN iA ic V oA qA qc a1 a2 e A c M).eqs = none := by
    show (match eqE (bdQ a1 e) with | some k => some (_, k) | none => match partsE (partsL (bdQ a1 e).exprs) with | some x => some x | none => eqsE [bdP a2 A c (List.replicate M exB)]) = none
    rw [show eqE (bdQ a1 e) = none by simp [eqE, bdQ, badN_x7], show partsL (bdQ a1 e).exprs = e.parts by simp [bdQ, Qx.exprs, partsL], h.fine]
    show (match eqE (bdP a2 A c (List.replicate M exB)) with | some k => some (_, k) | none => match partsE (partsL (bdP a2 A c (List.replicate M exB)).exprs) with | some x => some x | none => eqsE []) = none
    rw [show eqE (bdP a2 A c (List.replicate M exB)) = none by simp [eqE, bdP, badN_x7, badN_g, Ex.op], show partsL (bdP a2 A c (List.replicate M exB)).exprs = partsL (List.replicate M exB) by simp [bdP, Qx.exprs], rep_fine]
    rfl
  unfold validE
  rw [hm, hd, hl, hq, show (bdN iA ic V oA qA qc a1 a2 e A c M).name = [102] from rfl, badN_f7]
  unfold bdE
  simp
theorem bd_fits {k : Nat} {e : Ex} (h : ChE k e) (iA : Option Addr) (ic V : Nat) (oA qA : Addr) (qc : Nat) (a1 a2 : Addr) (A : Option Addr) (c M : Nat) (hM : M ≤ 1000) : ∀ x ∈ (bdN iA ic V oA qA qc a1 a2 e A c M).eqs, x.fits (k + 1) := fun x hx => by
  have hx2 : x = bdQ a1 e ∨ x = bdP a2 A c (List.replicate M exB) := by simpa [bdN] using hx
  rcases hx2 with rfl | rfl
  · exact ⟨by simp [Qx.exprs, bdQ, depL, h.dep], by simp [Qx.exprs, bdQ], by simp [Qx.exprs, bdQ, slimL, h.slim], by simp [bdQ]⟩
  · exact ⟨by have := rep_dep M; simp only [Qx.exprs, bdP, show ¬ ([103] : List UInt8) = [] by decide, if_false]; omega, by simp [Qx.exprs, bdP]; omega, by simp [Qx.exprs, bdP, rep_slim], by simp [bdP]; omega⟩

/-- The node in block B + 1 while its inputs come, its output in block B. -/
structure BdM (w W : World) (B k : Nat) (A : Option Addr) (c : Nat) : Prop where
  bel : Below w.heap.size w W
  le : w.heap.size ≤ B
  out : Blk W B 26 #[.int .i64 0, .string { data := #[120] }, .int .i64 1, .slice none 0 0]
  node : Blk W (B + 1) 30 #[.string { data := #[102] }, .slice A k c, .slice (some ⟨B, 0, none⟩) 1 1, .slice none 0 0, .slice none 0 0]
  o1 : Ow LD W (B + 2) (.slice A k c) (bdL k)
section
variable {w W W' : World} {B k c c' : Nat} {A A' : Option Addr}
theorem BdM.below (h : BdM w W B k A c) (hB : Below W.heap.size W W') : BdM w W' B k A c :=
  ⟨h.bel.trans (hB.mono h.bel.size), h.le, h.out.below hB h.out.lt, h.node.below hB h.node.lt, h.o1.below hB (Nat.le_refl _)⟩
theorem BdM.alloc (h : BdM w W B k A c) (o : Obj) : BdM w (W.alloc o) B k A c := h.below ((Below.refl _ _).alloc (Nat.le_refl _) _)
/-- One input more. -/
theorem BdM.more (h : BdM w W B k A c) (hO : Ow LD W' (B + 2) (.slice A' (k + 1) c') (bdL k ++ [bdD k])) (hB : Below (B + 2) W W') : BdM w (W'.setCell ⟨B + 1, 1, none⟩ (.slice A' (k + 1) c')) B (k + 1) A' c' := by
  have hle := h.le
  exact ⟨(h.bel.trans (hB.mono (by omega))).setCell (p := ⟨B + 1, 1, none⟩) (by show w.heap.size ≤ B + 1; omega) _, h.le, (h.out.below hB (by omega)).far (by simp) _, (h.node.below hB (by omega)).set 1 (.slice A' (k + 1) c'),
    by rw [bdL_next]; exact hO.keep fun g hg => Below.heap_setCell _ _ _ _ (by have := (hO.block g hg).1; show g ≠ B + 1; omega)⟩
theorem BdM.start {w w1 : World} (hB : Below w.heap.size w w1) : BdM w ((w1.alloc (.cells #[.int .i64 0, .string { data := #[120] }, .int .i64 1, .slice none 0 0] 26)).alloc (.cells #[.string { data := #[102] }, .slice none 0 0, .slice (some ⟨w1.heap.size, 0, none⟩) 1 1, .slice none 0 0, .slice none 0 0] 30)) w1.heap.size 0 none 0 :=
  ⟨(hB.alloc hB.size _).alloc (by have := hB.size; simp; omega) _, hB.size, Blk.alloc (heap_alloc_new w1 _) _, blk_news (by simp), Ow.nil _ _ _⟩
end
/-- A chain in block b0. -/
structure ChM (W : World) (b0 : Nat) (e : Ex) (k : Nat) : Prop where
  ch : ChE k e
  lies : e.Lies W (fun b => b0 < b ∧ b < W.heap.size)
  blk : Blk W b0 34 #[.int .i64 e.op, .int .i64 e.pos, .int .i64 e.n, .string ⟨e.name.toArray⟩, .slice e.A e.l.length e.c]
theorem ChM.start (w : World) : ChM (w.alloc (.cells #[.int .i64 1, .int .i64 0, .int .i64 0, .string { data := #[] }, .slice none 0 0] 34)) w.heap.size (.mk 1 0 0 [] none 0 []) 0 :=
  ⟨.zero, lies_bare _ _ _ _ _ _, heap_alloc_new w _⟩
theorem ChM.step {W : World} {b0 k : Nat} {e : Ex} (h : ChM W b0 e k) :
    ChM ((((((W.alloc (.cells #[.int .i64 e.op, .int .i64 e.pos, .int .i64 e.n, .string ⟨e.name.toArray⟩, .slice e.A e.l.length e.c] 34)).setCell ⟨b0, 0, none⟩ (.int .i64 4)).setCell ⟨b0, 1, none⟩ (.int .i64 0)).setCell ⟨b0, 2, none⟩ (.int .i64 0)).setCell ⟨b0, 3, none⟩ (.string { data := #[] })).setCell ⟨b0, 4, none⟩ (.slice (some ⟨W.heap.size, 0, none⟩) 1 1)) b0 (.mk 4 0 0 [] (some ⟨W.heap.size, 0, none⟩) 1 [e]) (k + 1) := by
  have hlt := h.blk.lt
  have hF := five_set (h.blk.alloc (.cells #[.int .i64 e.op, .int .i64 e.pos, .int .i64 e.n, .string ⟨e.name.toArray⟩, .slice e.A e.l.length e.c] 34)) (.int .i64 4) (.int .i64 0) (.int .i64 0) (.string { data := #[] }) (.slice (some ⟨W.heap.size, 0, none⟩) 1 1)
  have hO := five_other (W.alloc (.cells #[.int .i64 e.op, .int .i64 e.pos, .int .i64 e.n, .string ⟨e.name.toArray⟩, .slice e.A e.l.length e.c] 34)) b0 (.int .i64 4) (.int .i64 0) (.int .i64 0) (.string { data := #[] }) (.slice (some ⟨W.heap.size, 0, none⟩) 1 1)
  have hX := xs_built W (fun b => b0 < b ∧ b < W.heap.size + 1) [e] ⟨hlt, by omega⟩ (by simp [maxLen]) (fun x hx => by
    obtain rfl : x = e := by simpa using hx
    exact Ex.Lies.keep (fun b hb => ⟨hb.1, by omega⟩) (fun p hp => World.cell?_alloc_lt _ _ _ hp.2) x h.lies)
  refine ⟨.succ _ _ h.ch, ?_, hF⟩
  refine Xs.lies (e := .mk 4 0 0 [] (some ⟨W.heap.size, 0, none⟩) 1 [e]) ?_
  exact Xs.keep hX (fun b hb => ⟨hb.1, by simp; exact hb.2⟩) (fun p hp => World.cell?_of_block (hO _ (by have := hp.1; omega)))
/-- A row that is owned is a slice in memory, its block told. -/
theorem Ow.sl7 {α : Type} {L : Lie α} {w : World} {base : Nat} {v : Value} {l : List α} {K : Nat → Prop} (h : Ow L w base v l) (hK : ∀ b, base ≤ b → b < w.heap.size → K b) : ∃ A c, v = .slice A l.length c ∧ Sl L w K A c l := by
  obtain ⟨A, c, rfl, hr, h1, h2, h3, h4⟩ := h.rw
  refine ⟨A, c, rfl, ⟨h2, h1, fun hn => ?_, h3⟩, fun b o e j u hu => ?_⟩
  · obtain ⟨ad, rfl, hb, hc⟩ := hr.here (fun e => hn (by rw [e]; rfl))
    obtain ⟨e1, e2, e3⟩ := h4 ad rfl
    exact ⟨_, _, by rw [e1], hK _ e2 hb⟩
  · obtain ⟨ad, e', hb, hc⟩ := hr.here (by rintro rfl; simp [Lie.cells] at hu)
    rw [e] at e'
    cases e'
    have h5 := hc j u hu
    rwa [at_add] at h5
/-- The node with its first equation, behind block q0. -/
structure BdQ (w W : World) (B q0 j k : Nat) (A : Option Addr) (c : Nat) (e : Ex) : Prop where
  bel : Below w.heap.size w W
  le : w.heap.size ≤ B
  out : Blk W B 26 #[.int .i64 0, .string { data := #[120] }, .int .i64 1, .slice none 0 0]
  node : Blk W (B + 1) 30 #[.string { data := #[102] }, .slice A j c, .slice (some ⟨B, 0, none⟩) 1 1, .slice none 0 0, .slice (some ⟨q0 + 1, 0, none⟩) 1 1]
  i : Sl LD W (fun b => b < q0 ∧ b ≠ B + 1) A c (bdL j)
  ch : ChE k e
  lies : e.Lies W (fun b => b < q0 ∧ b ≠ B + 1)
  n1 : Blk W q0 9 #[.string { data := #[120] }]
  o4 : Ow LQ W (q0 + 1) (.slice (some ⟨q0 + 1, 0, none⟩) 1 1) [bdQ ⟨q0, 0, none⟩ e]
  lt : B + 1 < q0 ∧ q0 + 1 < W.heap.size
section
variable {w W W' : World} {B q0 b0 j k c : Nat} {A : Option Addr} {e : Ex}
theorem BdQ.below (h : BdQ w W B q0 j k A c e) (hB : Below W.heap.size W W') : BdQ w W' B q0 j k A c e :=
  ⟨h.bel.trans (hB.mono h.bel.size), h.le, h.out.below hB h.out.lt, h.node.below hB h.node.lt, h.i.keep (fun _ hb => hb) fun p hp => hB.cell (by have := h.lt; have := hp.1; omega), h.ch, h.lies.keep (fun _ hb => hb) (fun p hp => hB.cell (by have := h.lt; have := hp.1; omega)) e, h.n1.below hB h.n1.lt, h.o4.below hB (Nat.le_refl _), ⟨h.lt.1, Nat.lt_of_lt_of_le h.lt.2 hB.size⟩⟩
theorem BdQ.first (h : BdM w W B j A c) (hc : ChM W b0 e k) (hb : B + 1 < b0) :
    BdQ w (((W.alloc (.cells #[.string { data := #[120] }] 9)).alloc (.cells #[.int .i64 0, .slice (some ⟨W.heap.size, 0, none⟩) 1 1, .int .i64 e.op, .int .i64 e.pos, .int .i64 e.n, .string ⟨e.name.toArray⟩, .slice e.A e.l.length e.c, .string { data := #[] }, .slice none 0 0, .string { data := #[] }] 37)).setCell ⟨B + 1, 4, none⟩ (.slice (some ⟨W.heap.size + 1, 0, none⟩) 1 1)) B W.heap.size j k A c e := by
  have hle := h.le
  have hlt := hc.blk.lt
  have hcell : ∀ p : Addr, p.block < W.heap.size ∧ p.block ≠ B + 1 → (((W.alloc (.cells #[.string { data := #[120] }] 9)).alloc (.cells #[.int .i64 0, .slice (some ⟨W.heap.size, 0, none⟩) 1 1, .int .i64 e.op, .int .i64 e.pos, .int .i64 e.n, .string ⟨e.name.toArray⟩, .slice e.A e.l.length e.c, .string { data := #[] }, .slice none 0 0, .string { data := #[] }] 37)).setCell ⟨B + 1, 4, none⟩ (.slice (some ⟨W.heap.size + 1, 0, none⟩) 1 1)).cell? p = W.cell? p := fun p hp => World.cell?_of_block (by
    rw [Below.heap_setCell _ _ _ _ (by exact hp.2), Below.heap_alloc _ _ _ (by simp; omega), Below.heap_alloc _ _ _ hp.1])
  refine ⟨(((h.bel.alloc h.bel.size _).alloc (by have := h.bel.size; simp; omega) _).setCell (p := ⟨B + 1, 4, none⟩) (by show w.heap.size ≤ B + 1; omega) _), h.le, ((h.out.alloc _).alloc _).far (by simp) _, ((h.node.alloc _).alloc _).set 4 _, ?_, hc.ch, ?_, (Blk.alloc (heap_alloc_new W _) _).far (by simp; omega) _, ?_, ⟨by omega, by simp [World.setCell]⟩⟩
  · obtain ⟨A', c', hv, hs⟩ := h.o1.sl7 (K := fun b => b < W.heap.size ∧ b ≠ B + 1) fun b hb1 hb2 => ⟨hb2, by omega⟩
    rw [bdL_length] at hv
    cases hv
    exact hs.keep (fun _ hb => hb) fun p hp => hcell p hp
  · exact hc.lies.keep (fun b hb => ⟨hb.2, by omega⟩) (fun p hp => hcell p ⟨hp.2, by have := hp.1; omega⟩) e
  · exact Ow.of (cs := (LQ.cells [bdQ ⟨W.heap.size, 0, none⟩ e]).toArray) (Nat.le_refl _) ((blk_news (by simp)).far (by simp; omega) _) (by simp) (by simp [maxLen]) (by simp [Lie.cells_length]) (List.take_of_length_le (by rw [Lie.cells_length]; simp))
/-- The whole node. -/
theorem BdQ.done {M c2 : Nat} {A2 : Option Addr} {v' : Value} (h : BdQ w W B q0 j k A c e) (hL : Ow LX W (q0 + 2) (.slice A2 M c2) (List.replicate M exB))
    (hO : Ow LQ W' (q0 + 1) v' ([bdQ ⟨q0, 0, none⟩ e] ++ [bdP ⟨W.heap.size, 0, none⟩ A2 c2 (List.replicate M exB)])) (hB : Below (q0 + 1) (W.alloc (.cells #[.string { data := #[120] }] 9)) W')
    (hs : W.heap.size + 1 < W'.heap.size) (hK : ∀ g, g < W.heap.size + 1 → g ≠ q0 + 1 → W'.heap[g]? = (W.alloc (.cells #[.string { data := #[120] }] 9)).heap[g]?) :
    ∃ qA qc, v' = .slice (some qA) 2 qc ∧ (bdN A c j ⟨B, 0, none⟩ qA qc ⟨q0, 0, none⟩ ⟨W.heap.size, 0, none⟩ e A2 c2 M).Lies (W'.setCell ⟨B + 1, 4, none⟩ v') (· < (W'.setCell ⟨B + 1, 4, none⟩ v').heap.size) ∧
      Blk (W'.setCell ⟨B + 1, 4, none⟩ v') (B + 1) 30 #[.string { data := #[102] }, .slice A j c, .slice (some ⟨B, 0, none⟩) 1 1, .slice none 0 0, v'] ∧ Below w.heap.size w (W'.setCell ⟨B + 1, 4, none⟩ v') := by
  have hle := h.le
  have hlt := h.lt
  have hBw : Below w.heap.size w W' := (h.bel.alloc h.bel.size _).trans (hB.mono (by omega))
  have hsz : (W'.setCell ⟨B + 1, 4, none⟩ v').heap.size = W'.heap.size := by simp [World.setCell]
  have hblk : ∀ g, g < W.heap.size + 1 → g ≠ q0 + 1 → g ≠ B + 1 → (W'.setCell ⟨B + 1, 4, none⟩ v').heap[g]? = (W.alloc (.cells #[.string { data := #[120] }] 9)).heap[g]? := fun g h1 h2 h3 => (Below.heap_setCell _ _ _ _ (by exact h3)).trans (hK g h1 h2)
  have hcell : ∀ p : Addr, p.block < W.heap.size → p.block ≠ q0 + 1 → p.block ≠ B + 1 → (W'.setCell ⟨B + 1, 4, none⟩ v').cell? p = W.cell? p := fun p h1 h2 h3 => World.cell?_of_block ((hblk _ (by omega) h2 h3).trans (Below.heap_alloc _ _ _ h1))
  have hO2 : Ow LQ (W'.setCell ⟨B + 1, 4, none⟩ v') (q0 + 1) v' ([bdQ ⟨q0, 0, none⟩ e] ++ [bdP ⟨W.heap.size, 0, none⟩ A2 c2 (List.replicate M exB)]) := hO.keep fun g hg => Below.heap_setCell _ _ _ _ (by have := (hO.block g hg).1; show g ≠ B + 1; omega)
  obtain ⟨qA, qc, hv, hq⟩ := hO2.sl7 (K := (· < (W'.setCell ⟨B + 1, 4, none⟩ v').heap.size)) fun b _ hb => hb
  obtain ⟨b, o, rfl, -⟩ := hq.hd.at_ (by simp)
  obtain ⟨A', c', hv2, hx⟩ := hL.xs (K := fun b => b < W.heap.size ∧ b ≠ q0 + 1 ∧ b ≠ B + 1) (fun x hx => by rw [List.eq_of_mem_replicate hx]; exact bare_lies _ _ _ _ _ _) fun b h1 h2 => ⟨h2, by omega, by omega⟩
  rw [List.length_replicate] at hv2
  cases hv2
  have hout : Blk (W'.setCell ⟨B + 1, 4, none⟩ v') B 26 _ := (hblk B (by have := h.out.lt; omega) (by omega) (by omega)).trans (h.out.alloc _)
  have hn1 : Blk (W'.setCell ⟨B + 1, 4, none⟩ v') q0 9 _ := (hblk q0 (by omega) (by omega) (by omega)).trans (h.n1.alloc _)
  have hn2 : Blk (W'.setCell ⟨B + 1, 4, none⟩ v') W.heap.size 9 #[.string { data := #[120] }] := (hblk W.heap.size (by omega) (by omega) (by omega)).trans (heap_alloc_new W _)
  refine ⟨_, qc, hv, ⟨⟨h.i.keep (fun b hb => by rw [hsz]; have := hb.1; omega) (fun p hp => hcell p (by have := hp.1; omega) (by have := hp.1; omega) hp.2), fun d hd => ?_⟩, ⟨Sl.of_blk (L := LD) (l := [bdO]) hout hout.lt (by simp), fun d hd => by rw [List.mem_singleton.1 hd]; exact Sl.nil _ _ _⟩, ⟨Sl.nil _ _ _, fun d hd => by cases hd⟩, hq, fun q hq => ?_⟩, ?_, hBw.setCell (p := ⟨B + 1, 4, none⟩) (by show w.heap.size ≤ B + 1; omega) _⟩
  · obtain ⟨i, -, rfl⟩ := List.mem_map.1 hd
    exact Sl.nil _ _ _
  · have hq2 : q = bdQ ⟨q0, 0, none⟩ e ∨ q = bdP ⟨W.heap.size, 0, none⟩ A2 c2 (List.replicate M exB) := by simpa [bdN] using hq
    rcases hq2 with rfl | rfl
    · exact ⟨⟨h.lies.keep (fun b hb => by rw [hsz]; have := hb.1; omega) (fun p hp => hcell p (by have := hp.1; omega) (by have := hp.1; omega) hp.2) e, Xs.nil _ _⟩, Sl.of_blk (L := LN) (l := [[120]]) hn1 hn1.lt (by simp)⟩
    · exact ⟨⟨bare_lies _ _ _ _ _ _, hx.keep (fun b hb => by rw [hsz]; have := hb.1; omega) fun p hp => hcell p hp.1 hp.2.1 hp.2.2⟩, Sl.of_blk (L := LN) (l := [[120]]) hn2 hn2.lt (by simp)⟩
  · have hn := (h.node.alloc (.cells #[.string { data := #[120] }] 9)).below hB (by omega)
    exact hn.set 4 v'
end
end Go.Proofs.YtacmibkcnmaagaaDoor
