/-
  The names that an expression uses: the walks of hasName, standsLate and addUses. Conditions: each theorem's own premises.
-/
import Derived.Test.YtacmibkcnmaagaaDoorQTrC
namespace Go.Proofs.YtacmibkcnmaagaaDoor
open Go.RowKit Go.Lib

def hasN (op : Int) : Bool := decide (op = 3) || (decide (op = 24) || decide (op = 25))
def lateN (op i : Int) : Bool := decide (op = 23) || (decide (op = 21) && decide (i = 1))
mutual
/-- The names that are used, as they come. -/
def Ex.uses (late : Bool) : Ex → List (List UInt8) | .mk op _ _ name _ _ l => (if hasN op then [name] else []) ++ usesL late op 0 l
def usesL (late : Bool) (op : Int) : Nat → List Ex → List (List UInt8)
  | _, [] => []
  | i, e :: r => (if late || !lateN op i then e.uses late else []) ++ usesL late op (i + 1) r
end
theorem Ex.uses_eq (late : Bool) (e : Ex) : e.uses late = (if hasN e.op then [e.name] else []) ++ usesL late e.op 0 e.l := by obtain ⟨op, pos, n, name, A, c, l⟩ := e; rfl
theorem usesL_append (late : Bool) (op : Int) : ∀ (a b : List Ex) (i : Nat), usesL late op i (a ++ b) = usesL late op i a ++ usesL late op (i + a.length) b
  | [], b, i => by simp [usesL]
  | e :: r, b, i => by
    have := usesL_append late op r b (i + 1)
    simp only [List.cons_append, usesL, this, List.append_assoc, List.length_cons]
    rw [show i + 1 + r.length = i + (r.length + 1) by omega]
theorem usesL_take (late : Bool) (op : Int) (l : List Ex) (k : Nat) (h : k < l.length) : usesL late op 0 (l.take (k + 1)) = usesL late op 0 (l.take k) ++ (if late || !lateN op k then (l[k]).uses late else []) := by
  rw [take_succ h, usesL_append]
  simp only [usesL, List.append_nil, List.length_take]
  rw [show 0 + min k l.length = k by omega]
theorem uses_len (late : Bool) (e : Ex) : (e.uses late).length ≤ e.cnt := by
  refine Ex.ind (P := fun e => (e.uses late).length ≤ e.cnt) ?_ e
  intro e ih
  suffices ∀ (l : List Ex) (op : Int) (i : Nat), (∀ x ∈ l, (x.uses late).length ≤ x.cnt) → (usesL late op i l).length ≤ cntL l by
    have := this e.l e.op 0 ih
    rw [Ex.uses_eq, Ex.cnt_eq, List.length_append]
    have : (if hasN e.op then [e.name] else []).length ≤ 1 := by split <;> simp
    omega
  intro l
  induction l with
  | nil => intro _ _ _; simp [usesL]
  | cons a r ihr =>
    intro op i h
    have h1 := h a (by simp)
    have h2 := ihr op (i + 1) (fun x hx => h x (by simp [hx]))
    rw [usesL, cntL, List.length_append]
    have : (if late || !lateN op i then a.uses late else []).length ≤ a.cnt := by
      split
      · exact h1
      · simp
    omega

theorem usesL_len (late : Bool) (op : Int) : ∀ (l : List Ex) (i : Nat), (usesL late op i l).length ≤ cntL l
  | [], _ => by simp [usesL]
  | a :: r, i => by
    have h1 := uses_len late a
    have h2 := usesL_len late op r (i + 1)
    rw [usesL, cntL, List.length_append]
    have : (if late || !lateN op i then a.uses late else []).length ≤ a.cnt := by
      split
      · exact h1
      · simp
    omega
/-- How texts lie in a row. -/
def LN : Lie (List UInt8) := ⟨9, 1, fun k => [.string ⟨k.toArray⟩], fun _ => rfl, fun _ u hu => by simp at hu; subst hu; rfl⟩
theorem LNat : LieAt Tryd.prog 35 LN := by
  have h : (Tryd.prog.info? 9).map (fun i => (i.zero, i.size, i.bytes)) = some (some (.string ⟨#[]⟩), 1, 16) := by kernel_rfl
  obtain ⟨i0, hi, hz0, hz1, hz2⟩ := info_parts h
  exact ⟨Tryd.underlying35, ⟨i0, _, hi, hz0, hz1, by omega, rfl⟩, by show 0 < 1; omega⟩
/-- All blocks but a row's own stay. -/
structure Oth (v : Value) (W W' : World) : Prop where
  size : W.heap.size ≤ W'.heap.size
  same : ∀ k, k < W.heap.size → v.ownBlock ≠ some k → W'.heap[k]? = W.heap[k]?
/-- A row's new block: the old one, or a new one. -/
def Nw (v v' : Value) (W : World) : Prop := ∀ k, v'.ownBlock = some k → v.ownBlock = some k ∨ W.heap.size ≤ k
theorem Oth.refl (v : Value) (W : World) : Oth v W W := ⟨Nat.le_refl _, fun _ _ _ => rfl⟩
theorem Nw.refl (v : Value) (W : World) : Nw v v W := fun _ h => .inl h
theorem Oth.trans {v v1 : Value} {W W1 W2 : World} (h : Oth v W W1) (hn : Nw v v1 W) (h1 : Oth v1 W1 W2) : Oth v W W2 :=
  ⟨Nat.le_trans h.size h1.size, fun k hk hv => (h1.same k (Nat.lt_of_lt_of_le hk h.size) fun e => by
    rcases hn k e with e | e
    · exact hv e
    · omega).trans (h.same k hk hv)⟩
theorem Nw.trans {v v1 v2 : Value} {W W1 : World} (h : Nw v v1 W) (h1 : Nw v1 v2 W1) (hs : W.heap.size ≤ W1.heap.size) : Nw v v2 W := fun k hk => by
  rcases h1 k hk with e | e
  · exact h k e
  · exact .inr (by omega)
theorem Oth.of_below {v : Value} {W W' : World} (h : Below W.heap.size W W') : Oth v W W' := ⟨h.size, fun k hk _ => h.block k hk⟩
theorem Oth.cell {v : Value} {W W' : World} (h : Oth v W W') {p : Addr} (hp : p.block < W.heap.size) (hv : v.ownBlock ≠ some p.block) : W'.cell? p = W.cell? p := World.cell?_of_block (h.same _ hp hv)
/-- What addUses leaves. -/
def RetAu (W : World) (base : Nat) (v : Value) (ns : List (List UInt8)) (e : Ending) (W' : World) : Prop :=
  ∃ A c, e = .returned (.slice A ns.length c) ∧ Ow LN W' base (.slice A ns.length c) ns ∧ Below base W W' ∧ Oth v W W' ∧ Nw v (.slice A ns.length c) W

set_option maxHeartbeats 1000000 in
theorem hasName_any (op : Int) (w : World) : Calls Tryd.prog 88 #[.int .i64 op] w fun e w' => e = .returned (.bool (hasN op)) ∧ w = w' := by
  unfold hasN
  by_cases h3 : op = 3
  · subst h3
    go_enter Tryd.func88, Tryd.ntmps88
    go_wp2
    go_ret
    exact ⟨rfl, rfl⟩
  · have h3' : (op == 3) = false := beq_eq_false_iff_ne.2 h3
    by_cases h24 : op = 24
    · subst h24
      clear h3 h3'
      go_enter Tryd.func88, Tryd.ntmps88
      go_wp2
      go_ret
      exact ⟨rfl, rfl⟩
    · have h24' : (op == 24) = false := beq_eq_false_iff_ne.2 h24
      by_cases h25 : op = 25
      · subst h25
        clear h3 h3' h24 h24'
        go_enter Tryd.func88, Tryd.ntmps88
        go_wp2
        go_ret
        exact ⟨rfl, rfl⟩
      · have h25' : (op == 25) = false := beq_eq_false_iff_ne.2 h25
        have HR : Hid ((decide (op = 3) || (decide (op = 24) || decide (op = 25))) = false) := Lib.hid (by simp [h3, h24, h25])
        clear h3 h24 h25
        rw [HR.out]
        go_enter Tryd.func88, Tryd.ntmps88
        go_wp2
        go_ret
        exact ⟨rfl, rfl⟩
set_option maxHeartbeats 1000000 in
theorem standsLate_any (op i : Int) (w : World) : Calls Tryd.prog 107 #[.int .i64 op, .int .i64 i] w fun e w' => e = .returned (.bool (lateN op i)) ∧ w = w' := by
  unfold lateN
  by_cases h3 : op = 23
  · subst h3
    go_enter Tryd.func107, Tryd.ntmps107
    go_wp2
    go_ret
    exact ⟨rfl, rfl⟩
  · have h3' : (op == 23) = false := beq_eq_false_iff_ne.2 h3
    by_cases h24 : op = 21
    · subst h24
      clear h3 h3'
      by_cases h1 : i = 1
      · subst h1
        go_enter Tryd.func107, Tryd.ntmps107
        go_wp2
        go_ret
        exact ⟨rfl, rfl⟩
      · have h1' : (i == 1) = false := beq_eq_false_iff_ne.2 h1
        have HR : Hid ((decide ((21 : Int) = 23) || (decide ((21 : Int) = 21) && decide (i = 1))) = false) := Lib.hid (by simp [h1])
        clear h1
        rw [HR.out]
        go_enter Tryd.func107, Tryd.ntmps107
        go_wp2
        go_ret
        exact ⟨rfl, rfl⟩
    · have h24' : (op == 21) = false := beq_eq_false_iff_ne.2 h24
      have HR : Hid ((decide (op = 23) || (decide (op = 21) && decide (i = 1))) = false) := Lib.hid (by simp [h3, h24])
      clear h3 h24
      rw [HR.out]
      go_enter Tryd.func107, Tryd.ntmps107
      go_wp2
      go_ret
      exact ⟨rfl, rfl⟩
/-- Where its loop stands. -/
def AuRel (W : World) (base bx : Nat) (v0 : Value) (ns : List (List UInt8)) (late : Bool) (op : Int) (l : List Ex) (v i : Value) (wr : World) : Prop :=
  ∃ (k : Nat) (A : Option Addr) (c : Nat) (xs : List (List UInt8)), k ≤ l.length ∧ i = .int .i64 (k : Int) ∧ xs = ns ++ usesL late op 0 (l.take k) ∧ v = .slice A xs.length c ∧ Ow LN wr base (.slice A xs.length c) xs ∧ Below base W wr ∧ Oth v0 W wr ∧ Nw v0 (.slice A xs.length c) W ∧ wr.cell? ⟨bx, 0, none⟩ = some (.int .i64 op) ∧ bx < wr.heap.size ∧ (Value.slice A xs.length c).ownBlock ≠ some bx

set_option maxRecDepth 100000 in
set_option maxHeartbeats 4000000 in
theorem addUses_any (late : Bool) (base B : Nat) : ∀ (d : Nat) (e : Ex) (A : Option Addr) (c : Nat) (ns : List (List UInt8)) (W : World), e.dep ≤ d → e.slim 100000 = true → e.Lies W (· < B) → B ≤ base → base ≤ W.heap.size → ns.length + e.cnt ≤ 1000000 → Ow LN W base (.slice A ns.length c) ns →
    Calls Tryd.prog 69 #[.slice A ns.length c, e.val, .bool late] W (RetAu W base (.slice A ns.length c) (ns ++ e.uses late))
  | 0, e, _, _, _, _, h, _, _, _, _, _, _ => by rw [Ex.dep_eq] at h; omega
  | d + 1, e, A, c, ns, W, hd, hs, hl, hB, hbase, hcn, hO => by
    have hx := hl.xs
    have hde := Ex.dep_eq e
    have hce := Ex.cnt_eq e
    have hue := Ex.uses_eq late e
    obtain ⟨hs1, hs2⟩ := Ex.slim_in hs
    have IH := Lib.hid (fun (x : Ex) (A : Option Addr) (c : Nat) (ns : List (List UInt8)) (W' : World) (hm : x ∈ e.l) (hb : Below base W W') (h1 : ns.length + x.cnt ≤ 1000000) (h2 : Ow LN W' base (.slice A ns.length c) ns) => addUses_any late base B d x A c ns W' (by have := dep_mem hm; omega) (hs2 x hm) ((hx.all x hm).below (hb.mono hB)) hB (Nat.le_trans hbase hb.size) h1 h2)
    unfold Ex.val at IH
    have HX := Lib.hid hx
    have HU := Lib.hid hue
    obtain ⟨X, hX⟩ : ∃ X : ByteArray, X = ⟨e.name.toArray⟩ := ⟨_, rfl⟩
    dsimp only [Ex.val]
    rw [← hX]
    have HXn := Lib.hid hX
    obtain ⟨len, hlen⟩ : ∃ len, len = e.l.length := ⟨_, rfl⟩
    rw [← hlen] at hs1 ⊢
    have HL := Lib.hid hlen
    obtain ⟨nl, hnl⟩ : ∃ nl, nl = ns.length := ⟨_, rfl⟩
    rw [← hnl] at hcn hO ⊢
    have HNl := Lib.hid hnl
    obtain ⟨W0, hW0⟩ : ∃ W0, W0 = W.alloc (.cells #[.int .i64 e.op, .int .i64 e.pos, .int .i64 e.n, .string X, .slice e.A len e.c] 34) := ⟨_, rfl⟩
    have hB0 : Below W.heap.size W W0 := by rw [hW0]; exact (Below.refl _ _).alloc (Nat.le_refl _) _
    have hb0 : Blk W0 W.heap.size 34 #[.int .i64 e.op, .int .i64 e.pos, .int .i64 e.n, .string X, .slice e.A len e.c] := by rw [hW0]; exact heap_alloc_new W _
    have hz0 : W0.heap.size = W.heap.size + 1 := by rw [hW0]; simp
    have hO0 := hO.below hB0 (Nat.le_refl _)
    have hob : ∀ k, (Value.slice A nl c).ownBlock = some k → k < W.heap.size := fun k h => (hO.block k h).2
    have HOth0 : Hid (Oth (.slice A nl c) W W0) := Lib.hid (Oth.of_below hB0)
    have HB0 := Lib.hid (hB0.mono hbase)
    have HO0 := Lib.hid hO0
    have HOb := Lib.hid hob
    have HH := Lib.hid (fun W => hasName_any e.op W)
    obtain ⟨hN, hhN⟩ : ∃ hN, hN = hasN e.op := ⟨_, rfl⟩
    rw [← hhN] at HH
    have HhN := Lib.hid hhN
    obtain ⟨⟨k0, k1, k2, k3, k4⟩, -⟩ := blkx hb0
    have Hb0 := Lib.hid hb0
    clear hx hde hs2 hd hs hl hX hlen hnl hB0 hb0 hO hO0 hob hhN hue
    go_enter Tryd.func69, Tryd.ntmps69
    go_wp2_with fail
    rw [← hW0]
    clear hW0
    go_wp2_with fail
    refine (HH.out _).mono ?_
    rintro e2 w' ⟨rfl, rfl⟩
    cases hN
    · have HNs : Hid (ns = ns ++ (if hasN e.op then [e.name] else [])) := Lib.hid (by rw [← HhN.out]; simp)
      have HB1 := HB0
      have HO1 : Hid (Ow LN W0 base (.slice A ns.length c) ns) := Lib.hid (by rw [← HNl.out]; exact HO0.out)
      have HC1 := Hb0
      have HSl : Hid (Value.slice A nl c = .slice A ns.length c) := Lib.hid (by rw [HNl.out])
      have HOt1 : Hid (Oth (.slice A nl c) W W0) := Lib.hid HOth0.out
      have HNw1 : Hid (Nw (.slice A nl c) (.slice A ns.length c) W) := Lib.hid (by rw [← HNl.out]; exact Nw.refl _ _)
      have HNe1 : Hid ((Value.slice A ns.length c).ownBlock ≠ some W.heap.size) := Lib.hid (fun h => by rw [← HNl.out] at h; have := HOb.out _ h; omega)
      have hcn1 : ns.length + cntL e.l ≤ 1000000 := by rw [← HNl.out]; omega
      have hx1 := HX.out.below (W' := W0) (HB1.out.mono hB)
      go_wp2_with fail
      go_loopw [0, 20] (fun v i wr => AuRel W base W.heap.size (.slice A nl c) ns late e.op e.l v i wr) (fun _ i _ => len - (RowKit.intOf i).toNat)
      case atStart => exact ⟨0, A, c, ns, Nat.zero_le _, rfl, by simp [usesL], HSl.out, HO1.out, HB1.out, HOt1.out, HNw1.out, HC1.out.cell 0, by have := HC1.out.lt; omega, HNe1.out⟩
      case round =>
        clear hx1
        obtain ⟨k, A2, c2, xs, hk, rfl, hxs, hv, hO2, hb2, ho2, hn2, hop, hbx, hne⟩ := hrel
        subst hv
        have hLl := HL.out
        by_cases hp : k < len
        · have hkI : (k : Int) < (len : Int) := by omega
          obtain ⟨b, o, hA, -⟩ := HX.out.hd.at_ (by omega)
          have hx2 := HX.out.below (hb2.mono hB)
          rw [hA] at hx2 ⊢
          have hp' : k < e.l.length := by omega
          obtain ⟨c0, c1', c2', c3, c4⟩ := hx2.five hp'
          have HT := Lib.hid (usesL_take late e.op e.l k hp')
          have hcx : cntL (e.l.take k) + (e.l[k]).cnt ≤ cntL e.l := by
            have h1 := cntL_append (e.l.take (k + 1)) (e.l.drop (k + 1))
            rw [List.take_append_drop] at h1
            have h2 := cntL_take e.l k hp'
            omega
          have hul : (usesL late e.op 0 (e.l.take k)).length ≤ cntL (e.l.take k) := usesL_len late e.op _ 0
          have hxl : xs.length = ns.length + (usesL late e.op 0 (e.l.take k)).length := by rw [hxs, List.length_append]
          obtain ⟨W2, hW2⟩ : ∃ W2, W2 = wr.alloc (.cells #[.int .i64 e.l[k].op, .int .i64 e.l[k].pos, .int .i64 e.l[k].n, .string ⟨e.l[k].name.toArray⟩, .slice e.l[k].A e.l[k].l.length e.l[k].c] 34) := ⟨_, rfl⟩
          have hBa : Below wr.heap.size wr W2 := by rw [hW2]; exact (Below.refl _ _).alloc (Nat.le_refl _) _
          have hbx2 : Blk W2 wr.heap.size 34 #[.int .i64 e.l[k].op, .int .i64 e.l[k].pos, .int .i64 e.l[k].n, .string ⟨e.l[k].name.toArray⟩, .slice e.l[k].A e.l[k].l.length e.l[k].c] := by rw [hW2]; exact heap_alloc_new wr _
          have hz2 : wr.heap.size < W2.heap.size := hbx2.lt
          have hopW : W2.cell? ⟨W.heap.size, 0, none⟩ = some (.int .i64 e.op) := (hBa.cell (p := ⟨W.heap.size, 0, none⟩) hbx).trans hop
          have hOW := hO2.below hBa (Nat.le_refl _)
          have hBW : Below base W W2 := hb2.trans (hBa.mono (Nat.le_trans hbase hb2.size))
          have hoW : Oth (.slice A nl c) W W2 := ho2.trans hn2 (Oth.of_below hBa)
          have HI := Lib.hid (IH.out e.l[k] A2 c2 xs W2 (List.getElem_mem hp') hBW (by omega) hOW)
          obtain ⟨x, hx⟩ : ∃ x, x = e.l[k] := ⟨_, rfl⟩
          rw [← hx] at c0 c1' c2' c3 c4 HT HI hW2 hbx2 hcx
          obtain ⟨xl, hxl2⟩ : ∃ xl, xl = xs.length := ⟨_, rfl⟩
          rw [← hxl2] at HI hOW hne hn2 ⊢
          have HXl := Lib.hid hxl2
          have HOW := Lib.hid hOW
          have HBW := Lib.hid hBW
          have HoW := Lib.hid hoW
          have Hn2 := Lib.hid hn2
          have HXs := Lib.hid hxs
          have HNe := Lib.hid hne
          have HSt := Lib.hid (fun W => standsLate_any e.op (k : Int) W)
          have HLt := Lib.hid (show k < e.l.length from hp')
          obtain ⟨⟨q0, q1, q2, q3, q4⟩, -⟩ := blkx hbx2
          clear hx hp' hLl hx2 hBa hO2 hb2 ho2 hn2 hOW hBW hoW hxs hxl hxl2 hne hul hA
          cases late
          · cases hlt : lateN e.op (k : Int)
            · rw [hlt] at HSt HT
              clear hlt
              go_wp2_with fail
              rw [← hW2]
              clear hW2
              go_wp2_with fail
              refine (HSt.out _).mono ?_
              rintro e3 w3 ⟨rfl, rfl⟩
              go_wp2_with fail
              refine HI.out.mono ?_
              rintro e4 w4 ⟨A4, c4', rfl, hO4, hB4, ho4, hn4⟩
              have HF4 : Hid ((W.heap.size ≤ w4.heap.size) ∧ Ow LN w4 base (.slice A4 (xs ++ x.uses false).length c4') (xs ++ x.uses false) ∧ Below base W w4 ∧ Oth (.slice A nl c) W w4 ∧ Nw (.slice A nl c) (.slice A4 (xs ++ x.uses false).length c4') W ∧ w4.cell? ⟨W.heap.size, 0, none⟩ = some (.int .i64 e.op) ∧ W.heap.size < w4.heap.size ∧ (Value.slice A4 (xs ++ x.uses false).length c4').ownBlock ≠ some W.heap.size) := Lib.hid (by
                have hs := ho4.size
                have hsw := HoW.out.size
                have hlt := World.block_lt_of_cell? _ _ hopW
                refine ⟨by omega, hO4, HBW.out.trans hB4, HoW.out.trans Hn2.out ho4, Hn2.out.trans hn4 hsw, (ho4.cell (p := ⟨W.heap.size, 0, none⟩) hlt HNe.out).trans hopW, Nat.lt_of_lt_of_le hlt hs, fun h => ?_⟩
                rcases hn4 _ h with h1 | h1
                · exact HNe.out h1
                · simp only at hlt
                  omega)
              obtain ⟨nl4, hnl4⟩ : ∃ nl4, nl4 = (xs ++ x.uses false).length := ⟨_, rfl⟩
              rw [← hnl4] at HF4 ⊢
              have HN4 := Lib.hid hnl4
              clear hO4 hB4 ho4 hn4 hnl4
              go_wp2
              go_roundw
              case rel =>
                obtain ⟨f0, f1, f2, f3, f4, f5, f6, f7⟩ := HF4.out
                exact ⟨k + 1, A4, c4', xs ++ x.uses false, HLt.out, by go_num, by rw [HT.out, HXs.out, List.append_assoc]; simp, by rw [HN4.out], by rw [← HN4.out]; exact f1, f2, f3, by rw [← HN4.out]; exact f4, f5, f6, by rw [← HN4.out]; exact f7⟩
              case measure => simp [RowKit.intOf]; omega
            · rw [hlt] at HSt HT
              clear hlt
              go_wp2_with fail
              rw [← hW2]
              clear hW2
              go_wp2_with fail
              refine (HSt.out _).mono ?_
              rintro e3 w3 ⟨rfl, rfl⟩
              go_wp2
              go_roundw
              case rel => exact ⟨k + 1, A2, c2, xs, HLt.out, by go_num, by rw [HT.out, HXs.out]; simp, by rw [HXl.out], by rw [← HXl.out]; exact HOW.out, HBW.out, HoW.out, by rw [← HXl.out]; exact Hn2.out, hopW, by omega, by rw [← HXl.out]; exact HNe.out⟩
              case measure => simp [RowKit.intOf]; omega
          · go_wp2_with fail
            rw [← hW2]
            clear hW2
            go_wp2_with fail
            refine HI.out.mono ?_
            rintro e4 w4 ⟨A4, c4', rfl, hO4, hB4, ho4, hn4⟩
            have HF4 : Hid ((W.heap.size ≤ w4.heap.size) ∧ Ow LN w4 base (.slice A4 (xs ++ x.uses true).length c4') (xs ++ x.uses true) ∧ Below base W w4 ∧ Oth (.slice A nl c) W w4 ∧ Nw (.slice A nl c) (.slice A4 (xs ++ x.uses true).length c4') W ∧ w4.cell? ⟨W.heap.size, 0, none⟩ = some (.int .i64 e.op) ∧ W.heap.size < w4.heap.size ∧ (Value.slice A4 (xs ++ x.uses true).length c4').ownBlock ≠ some W.heap.size) := Lib.hid (by
              have hs := ho4.size
              have hsw := HoW.out.size
              have hlt := World.block_lt_of_cell? _ _ hopW
              refine ⟨by omega, hO4, HBW.out.trans hB4, HoW.out.trans Hn2.out ho4, Hn2.out.trans hn4 hsw, (ho4.cell (p := ⟨W.heap.size, 0, none⟩) hlt HNe.out).trans hopW, Nat.lt_of_lt_of_le hlt hs, fun h => ?_⟩
              rcases hn4 _ h with h1 | h1
              · exact HNe.out h1
              · simp only at hlt
                omega)
            obtain ⟨nl4, hnl4⟩ : ∃ nl4, nl4 = (xs ++ x.uses true).length := ⟨_, rfl⟩
            rw [← hnl4] at HF4 ⊢
            have HN4 := Lib.hid hnl4
            clear hO4 hB4 ho4 hn4 hnl4
            go_wp2
            go_roundw
            case rel =>
              obtain ⟨f0, f1, f2, f3, f4, f5, f6, f7⟩ := HF4.out
              exact ⟨k + 1, A4, c4', xs ++ x.uses true, HLt.out, by go_num, by rw [HT.out, HXs.out, List.append_assoc]; simp, by rw [HN4.out], by rw [← HN4.out]; exact f1, f2, f3, by rw [← HN4.out]; exact f4, f5, f6, by rw [← HN4.out]; exact f7⟩
            case measure => simp [RowKit.intOf]; omega
        · have hkI : decide ((k : Int) < (len : Int)) = false := decide_eq_false (by omega)
          have HT := Lib.hid (take_all e.l k (by omega))
          have HF : Hid (xs = ns ++ e.uses late) := Lib.hid (by rw [hxs, HT.out, HU.out, ← List.append_assoc]; exact congrArg (fun z => z ++ usesL late e.op 0 e.l) HNs.out)
          have HR := Lib.hid (⟨hO2, hb2, ho2, hn2⟩ : _ ∧ _ ∧ _ ∧ _)
          clear hxs hO2 hb2 ho2 hn2 hop hne hbx
          go_wp2
          go_ret
          obtain ⟨r1, r2, r3, r4⟩ := HR.out
          rw [HF.out] at r1 r4 ⊢
          exact ⟨A2, c2, rfl, r1, r2, r3, r4⟩
    · have HNs : Hid (ns ++ [e.name] = ns ++ (if hasN e.op then [e.name] else [])) := Lib.hid (by rw [← HhN.out]; simp)
      obtain ⟨v1, W1, hrun, hO1, hB1, hsz1, hK1, hob1⟩ := append_ow_one2 LNat e.name HO0.out (by rw [← HNl.out]; omega) (Nat.le_trans hbase HB0.out.size)
      obtain ⟨A1, c1, rfl⟩ : ∃ A c, v1 = .slice A (ns ++ [e.name]).length c := by
        obtain ⟨A, c, h, _⟩ := hO1.rw
        exact ⟨A, c, h⟩
      have HRun : Hid (∀ ty, (Builtin.append_ #[35, 35] ty #[.slice A nl c, .slice (some ⟨W.heap.size + 1, 0, none⟩) 1 1]).run Tryd.prog (W0.alloc (.cells #[.string X] 9)) = .ok (.slice A1 (ns ++ [e.name]).length c1) W1) := Lib.hid (fun ty => by have := hrun ty; rw [hz0, show (LN.enc e.name).toArray = #[.string X] by rw [HXn.out]; rfl] at this; exact this)
      have hne0 : (Value.slice A nl c).ownBlock ≠ some W.heap.size := fun h => by have := HOb.out _ h; omega
      have HB1 := Lib.hid (HB0.out.trans hB1)
      have HO1 := Lib.hid hO1
      have HC1 : Hid (Blk W1 W.heap.size 34 #[.int .i64 e.op, .int .i64 e.pos, .int .i64 e.n, .string X, .slice e.A len e.c]) := Lib.hid ((hK1 W.heap.size (by omega) (fun h => hne0 h.symm)).trans Hb0.out)
      have HOt1 : Hid (Oth (.slice A nl c) W W1) := Lib.hid ⟨by omega, fun k hk hv => (hK1 k (by omega) (fun h => hv h.symm)).trans (HOth0.out.same k hk hv)⟩
      have HNw1 : Hid (Nw (.slice A nl c) (.slice A1 (ns ++ [e.name]).length c1) W) := Lib.hid (fun k hk => by
        rcases hob1 with h | h
        · rw [h] at hk; exact .inl hk
        · rw [h] at hk; have := Option.some.inj hk; exact .inr (by omega))
      have HNe1 : Hid ((Value.slice A1 (ns ++ [e.name]).length c1).ownBlock ≠ some W.heap.size) := Lib.hid (fun h => by
        rcases hob1 with h1 | h1
        · rw [h1] at h; exact hne0 h
        · rw [h1] at h; have := Option.some.inj h; omega)
      have hcn1 : (ns ++ [e.name]).length + cntL e.l ≤ 1000000 := by rw [List.length_append, ← HNl.out]; simp; omega
      obtain ⟨n1, hn1⟩ : ∃ n1, n1 = (ns ++ [e.name]).length := ⟨_, rfl⟩
      have HN1 := Lib.hid hn1
      rw [← hn1] at HRun
      obtain ⟨⟨g0, g1, g2, g3, g4⟩, -⟩ := blkx HC1.out
      clear hrun hO1 hB1 hK1 hob1 hn1 hne0
      go_wp2_with (at_builtin; refine wpList_append_eq rfl _ _ 35 rfl _ _ (.slice A1 n1 c1) W1 rfl rfl (HRun.out _) ?_)
      have hx1 := HX.out.below (W' := W1) (HB1.out.mono hB)
      go_wp2_with fail
      go_loopw [0, 20] (fun v i wr => AuRel W base W.heap.size (.slice A nl c) (ns ++ [e.name]) late e.op e.l v i wr) (fun _ i _ => len - (RowKit.intOf i).toNat)
      case atStart => exact ⟨0, A1, c1, (ns ++ [e.name]), Nat.zero_le _, rfl, by simp [usesL], by rw [HN1.out], HO1.out, HB1.out, HOt1.out, HNw1.out, HC1.out.cell 0, by have := HC1.out.lt; omega, HNe1.out⟩
      case round =>
        clear hx1
        obtain ⟨k, A2, c2, xs, hk, rfl, hxs, hv, hO2, hb2, ho2, hn2, hop, hbx, hne⟩ := hrel
        subst hv
        have hLl := HL.out
        by_cases hp : k < len
        · have hkI : (k : Int) < (len : Int) := by omega
          obtain ⟨b, o, hA, -⟩ := HX.out.hd.at_ (by omega)
          have hx2 := HX.out.below (hb2.mono hB)
          rw [hA] at hx2 ⊢
          have hp' : k < e.l.length := by omega
          obtain ⟨c0, c1', c2', c3, c4⟩ := hx2.five hp'
          have HT := Lib.hid (usesL_take late e.op e.l k hp')
          have hcx : cntL (e.l.take k) + (e.l[k]).cnt ≤ cntL e.l := by
            have h1 := cntL_append (e.l.take (k + 1)) (e.l.drop (k + 1))
            rw [List.take_append_drop] at h1
            have h2 := cntL_take e.l k hp'
            omega
          have hul : (usesL late e.op 0 (e.l.take k)).length ≤ cntL (e.l.take k) := usesL_len late e.op _ 0
          have hxl : xs.length = (ns ++ [e.name]).length + (usesL late e.op 0 (e.l.take k)).length := by rw [hxs, List.length_append]
          obtain ⟨W2, hW2⟩ : ∃ W2, W2 = wr.alloc (.cells #[.int .i64 e.l[k].op, .int .i64 e.l[k].pos, .int .i64 e.l[k].n, .string ⟨e.l[k].name.toArray⟩, .slice e.l[k].A e.l[k].l.length e.l[k].c] 34) := ⟨_, rfl⟩
          have hBa : Below wr.heap.size wr W2 := by rw [hW2]; exact (Below.refl _ _).alloc (Nat.le_refl _) _
          have hbx2 : Blk W2 wr.heap.size 34 #[.int .i64 e.l[k].op, .int .i64 e.l[k].pos, .int .i64 e.l[k].n, .string ⟨e.l[k].name.toArray⟩, .slice e.l[k].A e.l[k].l.length e.l[k].c] := by rw [hW2]; exact heap_alloc_new wr _
          have hz2 : wr.heap.size < W2.heap.size := hbx2.lt
          have hopW : W2.cell? ⟨W.heap.size, 0, none⟩ = some (.int .i64 e.op) := (hBa.cell (p := ⟨W.heap.size, 0, none⟩) hbx).trans hop
          have hOW := hO2.below hBa (Nat.le_refl _)
          have hBW : Below base W W2 := hb2.trans (hBa.mono (Nat.le_trans hbase hb2.size))
          have hoW : Oth (.slice A nl c) W W2 := ho2.trans hn2 (Oth.of_below hBa)
          have HI := Lib.hid (IH.out e.l[k] A2 c2 xs W2 (List.getElem_mem hp') hBW (by omega) hOW)
          obtain ⟨x, hx⟩ : ∃ x, x = e.l[k] := ⟨_, rfl⟩
          rw [← hx] at c0 c1' c2' c3 c4 HT HI hW2 hbx2 hcx
          obtain ⟨xl, hxl2⟩ : ∃ xl, xl = xs.length := ⟨_, rfl⟩
          rw [← hxl2] at HI hOW hne hn2 ⊢
          have HXl := Lib.hid hxl2
          have HOW := Lib.hid hOW
          have HBW := Lib.hid hBW
          have HoW := Lib.hid hoW
          have Hn2 := Lib.hid hn2
          have HXs := Lib.hid hxs
          have HNe := Lib.hid hne
          have HSt := Lib.hid (fun W => standsLate_any e.op (k : Int) W)
          have HLt := Lib.hid (show k < e.l.length from hp')
          obtain ⟨⟨q0, q1, q2, q3, q4⟩, -⟩ := blkx hbx2
          clear hx hp' hLl hx2 hBa hO2 hb2 ho2 hn2 hOW hBW hoW hxs hxl hxl2 hne hul hA
          cases late
          · cases hlt : lateN e.op (k : Int)
            · rw [hlt] at HSt HT
              clear hlt
              go_wp2_with fail
              rw [← hW2]
              clear hW2
              go_wp2_with fail
              refine (HSt.out _).mono ?_
              rintro e3 w3 ⟨rfl, rfl⟩
              go_wp2_with fail
              refine HI.out.mono ?_
              rintro e4 w4 ⟨A4, c4', rfl, hO4, hB4, ho4, hn4⟩
              have HF4 : Hid ((W.heap.size ≤ w4.heap.size) ∧ Ow LN w4 base (.slice A4 (xs ++ x.uses false).length c4') (xs ++ x.uses false) ∧ Below base W w4 ∧ Oth (.slice A nl c) W w4 ∧ Nw (.slice A nl c) (.slice A4 (xs ++ x.uses false).length c4') W ∧ w4.cell? ⟨W.heap.size, 0, none⟩ = some (.int .i64 e.op) ∧ W.heap.size < w4.heap.size ∧ (Value.slice A4 (xs ++ x.uses false).length c4').ownBlock ≠ some W.heap.size) := Lib.hid (by
                have hs := ho4.size
                have hsw := HoW.out.size
                have hlt := World.block_lt_of_cell? _ _ hopW
                refine ⟨by omega, hO4, HBW.out.trans hB4, HoW.out.trans Hn2.out ho4, Hn2.out.trans hn4 hsw, (ho4.cell (p := ⟨W.heap.size, 0, none⟩) hlt HNe.out).trans hopW, Nat.lt_of_lt_of_le hlt hs, fun h => ?_⟩
                rcases hn4 _ h with h1 | h1
                · exact HNe.out h1
                · simp only at hlt
                  omega)
              obtain ⟨nl4, hnl4⟩ : ∃ nl4, nl4 = (xs ++ x.uses false).length := ⟨_, rfl⟩
              rw [← hnl4] at HF4 ⊢
              have HN4 := Lib.hid hnl4
              clear hO4 hB4 ho4 hn4 hnl4
              go_wp2
              go_roundw
              case rel =>
                obtain ⟨f0, f1, f2, f3, f4, f5, f6, f7⟩ := HF4.out
                exact ⟨k + 1, A4, c4', xs ++ x.uses false, HLt.out, by go_num, by rw [HT.out, HXs.out, List.append_assoc]; simp, by rw [HN4.out], by rw [← HN4.out]; exact f1, f2, f3, by rw [← HN4.out]; exact f4, f5, f6, by rw [← HN4.out]; exact f7⟩
              case measure => simp [RowKit.intOf]; omega
            · rw [hlt] at HSt HT
              clear hlt
              go_wp2_with fail
              rw [← hW2]
              clear hW2
              go_wp2_with fail
              refine (HSt.out _).mono ?_
              rintro e3 w3 ⟨rfl, rfl⟩
              go_wp2
              go_roundw
              case rel => exact ⟨k + 1, A2, c2, xs, HLt.out, by go_num, by rw [HT.out, HXs.out]; simp, by rw [HXl.out], by rw [← HXl.out]; exact HOW.out, HBW.out, HoW.out, by rw [← HXl.out]; exact Hn2.out, hopW, by omega, by rw [← HXl.out]; exact HNe.out⟩
              case measure => simp [RowKit.intOf]; omega
          · go_wp2_with fail
            rw [← hW2]
            clear hW2
            go_wp2_with fail
            refine HI.out.mono ?_
            rintro e4 w4 ⟨A4, c4', rfl, hO4, hB4, ho4, hn4⟩
            have HF4 : Hid ((W.heap.size ≤ w4.heap.size) ∧ Ow LN w4 base (.slice A4 (xs ++ x.uses true).length c4') (xs ++ x.uses true) ∧ Below base W w4 ∧ Oth (.slice A nl c) W w4 ∧ Nw (.slice A nl c) (.slice A4 (xs ++ x.uses true).length c4') W ∧ w4.cell? ⟨W.heap.size, 0, none⟩ = some (.int .i64 e.op) ∧ W.heap.size < w4.heap.size ∧ (Value.slice A4 (xs ++ x.uses true).length c4').ownBlock ≠ some W.heap.size) := Lib.hid (by
              have hs := ho4.size
              have hsw := HoW.out.size
              have hlt := World.block_lt_of_cell? _ _ hopW
              refine ⟨by omega, hO4, HBW.out.trans hB4, HoW.out.trans Hn2.out ho4, Hn2.out.trans hn4 hsw, (ho4.cell (p := ⟨W.heap.size, 0, none⟩) hlt HNe.out).trans hopW, Nat.lt_of_lt_of_le hlt hs, fun h => ?_⟩
              rcases hn4 _ h with h1 | h1
              · exact HNe.out h1
              · simp only at hlt
                omega)
            obtain ⟨nl4, hnl4⟩ : ∃ nl4, nl4 = (xs ++ x.uses true).length := ⟨_, rfl⟩
            rw [← hnl4] at HF4 ⊢
            have HN4 := Lib.hid hnl4
            clear hO4 hB4 ho4 hn4 hnl4
            go_wp2
            go_roundw
            case rel =>
              obtain ⟨f0, f1, f2, f3, f4, f5, f6, f7⟩ := HF4.out
              exact ⟨k + 1, A4, c4', xs ++ x.uses true, HLt.out, by go_num, by rw [HT.out, HXs.out, List.append_assoc]; simp, by rw [HN4.out], by rw [← HN4.out]; exact f1, f2, f3, by rw [← HN4.out]; exact f4, f5, f6, by rw [← HN4.out]; exact f7⟩
            case measure => simp [RowKit.intOf]; omega
        · have hkI : decide ((k : Int) < (len : Int)) = false := decide_eq_false (by omega)
          have HT := Lib.hid (take_all e.l k (by omega))
          have HF : Hid (xs = ns ++ e.uses late) := Lib.hid (by rw [hxs, HT.out, HU.out, ← List.append_assoc]; exact congrArg (fun z => z ++ usesL late e.op 0 e.l) HNs.out)
          have HR := Lib.hid (⟨hO2, hb2, ho2, hn2⟩ : _ ∧ _ ∧ _ ∧ _)
          clear hxs hO2 hb2 ho2 hn2 hop hne hbx
          go_wp2
          go_ret
          obtain ⟨r1, r2, r3, r4⟩ := HR.out
          rw [HF.out] at r1 r4 ⊢
          exact ⟨A2, c2, rfl, r1, r2, r3, r4⟩
end Go.Proofs.YtacmibkcnmaagaaDoor
