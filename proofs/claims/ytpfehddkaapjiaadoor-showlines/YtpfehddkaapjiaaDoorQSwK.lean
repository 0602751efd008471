/-
  The walks of the printer's node and of show's Node, for nodes whose equations give one variable by an expression. Conditions: each theorem's own premises.
-/
import Derived.Test.YtpfehddkaapjiaaDoorQSwJ
namespace Go.Proofs.YtpfehddkaapjiaaDoor
open Go.RowKit Go.Lib Go.Shelf
attribute [local go_sem] Oper.semAt_some

/-- A node. -/
structure Nd where
  name : List UInt8
  iA : Option Addr
  ic : Nat
  ins : List Dc
  oA : Option Addr
  oc : Nat
  outs : List Dc
  lA : Option Addr
  lc : Nat
  locs : List Dc
  qA : Option Addr
  qc : Nat
  eqs : List Qp
structure Nd.Lies (W : World) (b : Nat) (n : Nd) : Prop where
  i : Dl W (· < b) n.iA n.ic n.ins
  o : Dl W (· < b) n.oA n.oc n.outs
  l : Dl W (· < b) n.lA n.lc n.locs
  q : Sl LQp W (· < b) n.qA n.qc n.eqs
  e : ∀ q ∈ n.eqs, q.Lies W b
theorem Nd.Lies.below {W W' : World} {b : Nat} {n : Nd} (h : n.Lies W b) (hB : Below b W W') : n.Lies W' b := ⟨h.i.below hB, h.o.below hB, h.l.below hB, h.q.below hB, fun q hq => (h.e q hq).below hB⟩
def dsT (l : List Dc) : List UInt8 := jnL [59, 32] 0 (l.map Dc.shw)
def eqT (q : Qp) : List UInt8 := [32, 32] ++ q.shw ++ [59, 10]
def Nd.shw (n : Nd) : List UInt8 :=
  ([110, 111, 100, 101, 32] ++ (n.name ++ [40])) ++ dsT n.ins ++ [41, 32, 114, 101, 116, 117, 114, 110, 115, 32, 40] ++ dsT n.outs ++ [41, 59, 10] ++ (if n.locs = [] then [] else [118, 97, 114, 32] ++ dsT n.locs ++ [59, 10]) ++ [108, 101, 116, 10] ++ (n.eqs.map eqT).flatten ++ [116, 101, 108, 10]
theorem eqs_take (l : List Qp) (j : Nat) (hj : j < l.length) : ((l.take (j + 1)).map eqT).flatten = ((l.take j).map eqT).flatten ++ eqT l[j] := by
  rw [List.take_succ_eq_append_getElem hj, List.map_append, List.flatten_append]
  simp
theorem eqs_le (l : List Qp) (j : Nat) : (((l.take j).map eqT).flatten).length ≤ ((l.map eqT).flatten).length := by
  have h : (l.map eqT).flatten = ((l.take j).map eqT).flatten ++ ((l.drop j).map eqT).flatten := by rw [← List.flatten_append, ← List.map_append, List.take_append_drop]
  rw [h, List.length_append]
  omega

theorem listT_any (b : Nat) (acc : List UInt8) (A : Option Addr) (c : Nat) (l : List Dc) (w : World) (h : PrA b acc w) (hD : Dl w (· < b) A c l) (hlen : acc.length + (dsT l).length ≤ 140737488355328) :
    Calls Tryd.prog 107 #[.pointer (some ⟨b, 0, none⟩), .slice A l.length c, .string { data := #[59, 32] }, fmD b] w fun r w' => r = .returned (.tuple #[]) ∧ Wr b (acc ++ dsT l) w w' := listD_any b acc A c l w h hD hlen

set_option maxRecDepth 100000 in
set_option maxHeartbeats 1000000 in
/-- From 'let' on: the equations, and the end. -/
theorem node_any (b : Nat) (acc : List UInt8) (n : Nd) (w : World) (h : PrA b acc w) (hn : n.Lies w b) (hT : TbB b w) (hlen : acc.length + n.shw.length + 100 ≤ 140737488355328) :
    Calls Tryd.prog 66 #[.pointer (some ⟨b, 0, none⟩), .agg #[.string ⟨n.name.toArray⟩, .slice n.iA n.ins.length n.ic, .slice n.oA n.outs.length n.oc, .slice n.lA n.locs.length n.lc, .slice n.qA n.eqs.length n.qc]] w fun r w' => r = .returned (.tuple #[]) ∧ Wr b (acc ++ n.shw) w w' := by
  obtain ⟨name, iA, ic, ins, oA, oc, outs, lA, lc, locs, qA, qc, eqs⟩ := n
  dsimp only
  obtain ⟨T1, hT1⟩ : ∃ T, T = dsT ins := ⟨_, rfl⟩
  obtain ⟨T2, hT2⟩ : ∃ T, T = dsT outs := ⟨_, rfl⟩
  obtain ⟨T3, hT3⟩ : ∃ T, T = dsT locs := ⟨_, rfl⟩
  obtain ⟨T4, hT4⟩ : ∃ T, T = (eqs.map eqT).flatten := ⟨_, rfl⟩
  have hl : acc.length + name.length + T1.length + T2.length + (if locs = [] then 0 else T3.length) + T4.length + 100 ≤ 140737488355328 := by
    simp only [Nd.shw, List.length_append, List.length_cons, List.length_nil, ← hT1, ← hT2, ← hT4] at hlen
    split
    · rename_i h0
      rw [if_pos h0] at hlen
      simp only [List.length_nil] at hlen
      omega
    · rename_i h0
      rw [if_neg h0, ← hT3] at hlen
      simp only [List.length_append, List.length_cons, List.length_nil] at hlen
      omega
  --WALK
  obtain ⟨nI, hnI⟩ : ∃ k, k = ins.length := ⟨_, rfl⟩
  obtain ⟨nO, hnO⟩ : ∃ k, k = outs.length := ⟨_, rfl⟩
  obtain ⟨nL, hnL⟩ : ∃ k, k = locs.length := ⟨_, rfl⟩
  obtain ⟨nQ, hnQ⟩ : ∃ k, k = eqs.length := ⟨_, rfl⟩
  rw [← hnI, ← hnO, ← hnL, ← hnQ]
  have hqc : nQ ≤ qc := by rw [hnQ]; exact hn.q.hd.le
  have hqm : qc ≤ 9223372036854775807 := by have := hn.q.hd.big; simpa [maxLen] using this
  obtain ⟨W1, hW1⟩ : ∃ W1, W1 = w.alloc (.cells #[.string ⟨name.toArray⟩, .slice iA nI ic, .slice oA nO oc, .slice lA nL lc, .slice qA nQ qc] 30) := ⟨_, rfl⟩
  have hWr1 : Wr b acc w W1 := by rw [hW1]; exact Wr.ofAlloc h _
  have hb1 : Blk W1 w.heap.size 30 #[.string ⟨name.toArray⟩, .slice iA nI ic, .slice oA nO oc, .slice lA nL lc, .slice qA nQ qc] := by rw [hW1]; exact heap_alloc_new w _
  have hz1 : W1.heap.size = w.heap.size + 1 := by rw [hW1]; simp
  have hbw := h.lt
  have HI := Lib.hid hn.i
  have HO := Lib.hid hn.o
  have HLc := Lib.hid hn.l
  have HQ := Lib.hid hn.q
  have HE := Lib.hid hn.e
  have HT := Lib.hid hT
  have NI := Lib.hid hnI
  have NO := Lib.hid hnO
  have NL := Lib.hid hnL
  have NQ := Lib.hid hnQ
  have HLe := Lib.hid hl
  have HT1 := Lib.hid hT1
  have HT2 := Lib.hid hT2
  have HT3 := Lib.hid hT3
  have HT4 := Lib.hid hT4
  have HS : Hid (Nd.shw ⟨name, iA, ic, ins, oA, oc, outs, lA, lc, locs, qA, qc, eqs⟩ = ([110, 111, 100, 101, 32] ++ (name ++ [40])) ++ T1 ++ [41, 32, 114, 101, 116, 117, 114, 110, 115, 32, 40] ++ T2 ++ [41, 59, 10] ++ (if locs = [] then [] else [118, 97, 114, 32] ++ T3 ++ [59, 10]) ++ [108, 101, 116, 10] ++ T4 ++ [116, 101, 108, 10]) := Lib.hid (by rw [hT1, hT2, hT3, hT4]; rfl)
  have HP1 := Lib.hid (put3 b (w.heap.size + 1) acc [110, 111, 100, 101, 32] name [40] W1 hz1 hWr1.pr (by simp only [List.length_cons, List.length_nil]; omega))
  have HW0 := Lib.hid hWr1
  have Hb0 := Lib.hid hb1
  have k0 := hb1.cell 0
  clear h hn hT hlen hl hnI hnO hnL hnQ hT1 hT2 hT3 hT4 hWr1 hb1 hz1
  subst hW1
  go_enter Tryd.func66, Tryd.ntmps66
  go_wp2_with fail
  refine HP1.out.mono ?_
  rintro r w1 ⟨rfl, h1⟩
  have HR1 := Lib.hid h1
  have HW1 := Lib.hid (HW0.out.trans h1)
  have Hb1 := Lib.hid (h1.blk Hb0.out (by omega) (by decide))
  have m0 := Hb1.out.cell 0
  have m1 := Hb1.out.cell 1
  have m2 := Hb1.out.cell 2
  have m3 := Hb1.out.cell 3
  have m4 := Hb1.out.cell 4
  clear h1 HP1 k0 Hb0 HW0
  have HP2 := Lib.hid (listT_any b _ iA ic ins w1 HR1.out.pr (HI.out.below (HW1.out.bel)) (by rw [← HT1.out]; have := HLe.out; simp only [List.length_append, List.length_cons, List.length_nil]; omega))
  rw [← NI.out, ← HT1.out] at HP2
  go_wp2_with fail
  refine HP2.out.mono ?_
  rintro r w2 ⟨rfl, h2⟩
  have HR2 := Lib.hid h2
  have HW2 := Lib.hid (HW1.out.trans h2)
  have Hb2 := Lib.hid (h2.blk Hb1.out (by omega) (by decide))
  have m0 := Hb2.out.cell 0
  have m1 := Hb2.out.cell 1
  have m2 := Hb2.out.cell 2
  have m3 := Hb2.out.cell 3
  have m4 := Hb2.out.cell 4
  clear h2 HP2 HR1 Hb1
  have HP3 := Lib.hid (put1 b w2.heap.size _ [41, 32, 114, 101, 116, 117, 114, 110, 115, 32, 40] w2 rfl HR2.out.pr (by have := HLe.out; simp only [List.length_append, List.length_cons, List.length_nil]; omega))
  go_wp2_with fail
  refine HP3.out.mono ?_
  rintro r w3 ⟨rfl, h3⟩
  have HR3 := Lib.hid h3
  have HW3 := Lib.hid (HW2.out.trans h3)
  have Hb3 := Lib.hid (h3.blk Hb2.out (by omega) (by decide))
  have m0 := Hb3.out.cell 0
  have m1 := Hb3.out.cell 1
  have m2 := Hb3.out.cell 2
  have m3 := Hb3.out.cell 3
  have m4 := Hb3.out.cell 4
  clear h3 HP3 HR2 Hb2
  have HP4 := Lib.hid (listT_any b _ oA oc outs w3 HR3.out.pr (HO.out.below (HW3.out.bel)) (by rw [← HT2.out]; have := HLe.out; simp only [List.length_append, List.length_cons, List.length_nil]; omega))
  rw [← NO.out, ← HT2.out] at HP4
  go_wp2_with fail
  refine HP4.out.mono ?_
  rintro r w4 ⟨rfl, h4⟩
  have HR4 := Lib.hid h4
  have HW4 := Lib.hid (HW3.out.trans h4)
  have Hb4 := Lib.hid (h4.blk Hb3.out (by omega) (by decide))
  have m0 := Hb4.out.cell 0
  have m1 := Hb4.out.cell 1
  have m2 := Hb4.out.cell 2
  have m3 := Hb4.out.cell 3
  have m4 := Hb4.out.cell 4
  clear h4 HP4 HR3 Hb3
  have HP5 := Lib.hid (put1 b w4.heap.size _ [41, 59, 10] w4 rfl HR4.out.pr (by have := HLe.out; simp only [List.length_append, List.length_cons, List.length_nil]; omega))
  go_wp2_with fail
  refine HP5.out.mono ?_
  rintro r w5 ⟨rfl, h5⟩
  have HR5 := Lib.hid h5
  have HW5 := Lib.hid (HW4.out.trans h5)
  have Hb5 := Lib.hid (h5.blk Hb4.out (by omega) (by decide))
  have m0 := Hb5.out.cell 0
  have m1 := Hb5.out.cell 1
  have m2 := Hb5.out.cell 2
  have m3 := Hb5.out.cell 3
  have m4 := Hb5.out.cell 4
  clear h5 HP5 HR4 Hb4
  by_cases h0 : locs = []
  · have hnl : nL = 0 := by rw [NL.out, h0]; rfl
    rw [if_pos h0] at HLe
    have H0 := Lib.hid h0
    subst hnl
    clear h0
    have HP6 := Lib.hid (put1 b w5.heap.size _ [108, 101, 116, 10] w5 rfl HR5.out.pr (by have := HLe.out; simp only [List.length_append, List.length_cons, List.length_nil]; omega))
    go_wp2_with fail
    refine HP6.out.mono ?_
    rintro r w6 ⟨rfl, h6⟩
    have HR6 := Lib.hid h6
    have HW6 := Lib.hid (HW5.out.trans h6)
    have Hb6 := Lib.hid (h6.blk Hb5.out (by omega) (by decide))
    have m0 := Hb6.out.cell 0
    have m1 := Hb6.out.cell 1
    have m2 := Hb6.out.cell 2
    have m3 := Hb6.out.cell 3
    have m4 := Hb6.out.cell 4
    clear h6 HP6 HR5 Hb5
    clear m0 m1 m2 m3
    go_wp2_with fail
    go_loopw [51] (fun i wr => ∃ j : Nat, j ≤ nQ ∧ i = .int .i64 (j : Int) ∧ Wr b ((acc ++ ([110, 111, 100, 101, 32] ++ (name ++ [40])) ++ T1 ++ [41, 32, 114, 101, 116, 117, 114, 110, 115, 32, 40] ++ T2 ++ [41, 59, 10] ++ [108, 101, 116, 10]) ++ ((eqs.take j).map eqT).flatten) w6 wr) (fun i _ => nQ - (RowKit.intOf i).toNat)
    case atStart => exact ⟨0, Nat.zero_le _, rfl, by simpa using HR6.out.pr.refl⟩
    case round =>
      obtain ⟨j, hj, rfl, hW⟩ := hrel
      by_cases hp : j < nQ
      · have hjl : j < eqs.length := by rw [← NQ.out]; exact hp
        have hQw := HQ.out.below (HW6.out.bel.trans hW.bel)
        obtain ⟨bb, oo, rfl, hbb⟩ := hQw.hd.at_ (by omega)
        obtain ⟨q, hq⟩ : ∃ q, q = eqs[j] := ⟨_, rfl⟩
        have hat : ∀ i u, i < 10 → q.vals[i]? = some u → wr.cell? ⟨bb, oo + j * 10 + i, none⟩ = some u := fun i u hi hu => hQw.at_ hjl i u hi (by rw [← hq]; exact hu)
        have c0 : wr.cell? ⟨bb, oo + j * 10, none⟩ = some (.int .i64 q.pos) := hat 0 _ (by decide) rfl
        have c1 := hat 1 _ (by decide) rfl
        have c2 := hat 2 _ (by decide) rfl
        have c3 := hat 3 _ (by decide) rfl
        have c4 := hat 4 _ (by decide) rfl
        have c5 := hat 5 _ (by decide) rfl
        have c6 := hat 6 _ (by decide) rfl
        have c7 := hat 7 _ (by decide) rfl
        have c8 := hat 8 _ (by decide) rfl
        have c9 := hat 9 _ (by decide) rfl
        have hql : q.Lies wr b := by rw [hq]; exact (HE.out _ (List.getElem_mem hjl)).below (HW6.out.bel.trans hW.bel)
        have hT := eqs_take eqs j hjl
        have hle := eqs_le eqs (j + 1)
        rw [← hq] at hT
        rw [hT, ← HT4.out] at hle
        simp only [List.length_append, eqT, List.length_cons, List.length_nil] at hle
        obtain ⟨V, hV⟩ : ∃ V, V = q.vals.toArray := ⟨_, rfl⟩
        have hVe : V = #[.int .i64 q.pos, .slice (some ⟨q.bb, q.oo, none⟩) 1 1, .int .i64 q.e.op, .int .i64 q.e.pos, .int .i64 q.e.n, .string ⟨q.e.name.toArray⟩, .slice q.e.A q.e.l.length q.e.c, .string { data := #[] }, .slice none 0 0, .string { data := #[] }] := hV
        obtain ⟨W3, hW3⟩ : ∃ W3, W3 = wr.alloc (.cells #[.int .i64 q.pos, .slice (some ⟨q.bb, q.oo, none⟩) 1 1, .int .i64 q.e.op, .int .i64 q.e.pos, .int .i64 q.e.n, .string ⟨q.e.name.toArray⟩, .slice q.e.A q.e.l.length q.e.c, .string { data := #[] }, .slice none 0 0, .string { data := #[] }] 37) := ⟨_, rfl⟩
        have h3 : Wr b ((acc ++ ([110, 111, 100, 101, 32] ++ (name ++ [40])) ++ T1 ++ [41, 32, 114, 101, 116, 117, 114, 110, 115, 32, 40] ++ T2 ++ [41, 59, 10] ++ [108, 101, 116, 10]) ++ ((eqs.take j).map eqT).flatten) wr W3 := by rw [hW3]; exact Wr.ofAlloc hW.pr _
        have hb3 : Blk W3 wr.heap.size 37 #[.int .i64 q.pos, .slice (some ⟨q.bb, q.oo, none⟩) 1 1, .int .i64 q.e.op, .int .i64 q.e.pos, .int .i64 q.e.n, .string ⟨q.e.name.toArray⟩, .slice q.e.A q.e.l.length q.e.c, .string { data := #[] }, .slice none 0 0, .string { data := #[] }] := by rw [hW3]; exact heap_alloc_new wr _
        have hbr : b < wr.heap.size := hW.pr.lt
        obtain ⟨F, hF⟩ : ∃ F, F = ((eqs.take j).map eqT).flatten := ⟨_, rfl⟩
        rw [← hF] at h3 hW hle hT
        have HPa := Lib.hid (put1 b (wr.heap.size + 1) ((acc ++ ([110, 111, 100, 101, 32] ++ (name ++ [40])) ++ T1 ++ [41, 32, 114, 101, 116, 117, 114, 110, 115, 32, 40] ++ T2 ++ [41, 59, 10] ++ [108, 101, 116, 10]) ++ F) [32, 32] W3 (by rw [hW3]; simp) h3.pr (by have := HLe.out; simp only [List.length_append, List.length_cons, List.length_nil]; omega))
        have HX3 := Lib.hid (hW.trans h3)
        have HB3 := Lib.hid hb3
        have HQl := Lib.hid (hql.below h3.bel)
        have HTs := Lib.hid hT
        have Hle := Lib.hid hle
        have Hbr := Lib.hid hbr
        clear hQw hbb hq hat hql hT hle hV hVe h3 hb3 hbr hW hF
        subst hW3
        go_wp2_with fail
        refine HPa.out.mono ?_
        rintro r x4 ⟨rfl, h4⟩
        have hb4 := h4.blk HB3.out (by have := Hbr.out; omega) (by decide)
        have n0 := hb4.cell 0
        have n1 := hb4.cell 1
        have n2 := hb4.cell 2
        have n3 := hb4.cell 3
        have n4 := hb4.cell 4
        have n5 := hb4.cell 5
        have n6 := hb4.cell 6
        have n7 := hb4.cell 7
        have n8 := hb4.cell 8
        have n9 := hb4.cell 9
        have HX4 := Lib.hid (HX3.out.trans h4)
        have HC := Lib.hid (eqn_any b _ q x4 h4.pr (HQl.out.below h4.bel) (HT.out.next ((HW6.out.trans HX3.out).trans h4).bel) (by have := HLe.out; have := Hle.out; simp only [List.length_append, List.length_cons, List.length_nil] at this ⊢; omega))
        unfold Qp.vals at HC
        clear h4 hb4 HPa c0 c1 c2 c3 c4 c5 c6 c7 c8 c9
        go_wp2_with fail
        refine HC.out.mono ?_
        rintro r x5 ⟨rfl, h5⟩
        have HX5 := Lib.hid (HX4.out.trans h5)
        have HPc := Lib.hid (put1 b x5.heap.size _ [59, 10] x5 rfl h5.pr (by have := HLe.out; have := Hle.out; simp only [List.length_append, List.length_cons, List.length_nil] at this ⊢; omega))
        clear h5 HC n0 n1 n2 n3 n4 n5 n6 n7 n8 n9
        go_wp2_with fail
        refine HPc.out.mono ?_
        rintro r x6 ⟨rfl, h6⟩
        have HXn := Lib.hid (HX5.out.trans h6)
        clear h6 HPc
        go_wp2
        go_roundw
        case rel => exact ⟨j + 1, by omega, by go_num, by rw [HTs.out]; simpa only [eqT, List.append_assoc] using HXn.out⟩
        case measure => simp [RowKit.intOf]; omega
      · obtain rfl : j = nQ := by omega
        have HX := Lib.hid hW
        rw [NQ.out, List.take_length, ← HT4.out] at HX
        have HPe := Lib.hid (put1 b wr.heap.size _ [116, 101, 108, 10] wr rfl HX.out.pr (by have := HLe.out; simp only [List.length_append, List.length_cons, List.length_nil]; omega))
        clear hW
        go_wp2_with fail
        refine HPe.out.mono ?_
        rintro r x7 ⟨rfl, h7⟩
        have HXn := Lib.hid (HW6.out.trans (HX.out.trans h7))
        clear h7 HPe
        go_wp2
        go_end0
        exact ⟨rfl, by rw [HS.out, if_pos H0.out]; simpa only [List.append_assoc, List.nil_append] using HXn.out⟩
  · have hnl : (0 : Int) < (nL : Int) := by
      have : locs.length ≠ 0 := fun h => h0 (List.eq_nil_of_length_eq_zero h)
      have := NL.out
      omega
    rw [if_neg h0] at HLe
    have H0 := Lib.hid h0
    clear h0
    have HP6 := Lib.hid (put1 b w5.heap.size _ [118, 97, 114, 32] w5 rfl HR5.out.pr (by have := HLe.out; simp only [List.length_append, List.length_cons, List.length_nil]; omega))
    go_wp2_with fail
    refine HP6.out.mono ?_
    rintro r w6 ⟨rfl, h6⟩
    have HR6 := Lib.hid h6
    have HW6 := Lib.hid (HW5.out.trans h6)
    have Hb6 := Lib.hid (h6.blk Hb5.out (by omega) (by decide))
    have m0 := Hb6.out.cell 0
    have m1 := Hb6.out.cell 1
    have m2 := Hb6.out.cell 2
    have m3 := Hb6.out.cell 3
    have m4 := Hb6.out.cell 4
    clear h6 HP6 HR5 Hb5
    have HP7 := Lib.hid (listT_any b _ lA lc locs w6 HR6.out.pr (HLc.out.below (HW6.out.bel)) (by rw [← HT3.out]; have := HLe.out; simp only [List.length_append, List.length_cons, List.length_nil]; omega))
    rw [← NL.out, ← HT3.out] at HP7
    go_wp2_with fail
    refine HP7.out.mono ?_
    rintro r w7 ⟨rfl, h7⟩
    have HR7 := Lib.hid h7
    have HW7 := Lib.hid (HW6.out.trans h7)
    have Hb7 := Lib.hid (h7.blk Hb6.out (by omega) (by decide))
    have m0 := Hb7.out.cell 0
    have m1 := Hb7.out.cell 1
    have m2 := Hb7.out.cell 2
    have m3 := Hb7.out.cell 3
    have m4 := Hb7.out.cell 4
    clear h7 HP7 HR6 Hb6
    have HP8 := Lib.hid (put1 b w7.heap.size _ [59, 10] w7 rfl HR7.out.pr (by have := HLe.out; simp only [List.length_append, List.length_cons, List.length_nil]; omega))
    go_wp2_with fail
    refine HP8.out.mono ?_
    rintro r w8 ⟨rfl, h8⟩
    have HR8 := Lib.hid h8
    have HW8 := Lib.hid (HW7.out.trans h8)
    have Hb8 := Lib.hid (h8.blk Hb7.out (by omega) (by decide))
    have m0 := Hb8.out.cell 0
    have m1 := Hb8.out.cell 1
    have m2 := Hb8.out.cell 2
    have m3 := Hb8.out.cell 3
    have m4 := Hb8.out.cell 4
    clear h8 HP8 HR7 Hb7
    have HP9 := Lib.hid (put1 b w8.heap.size _ [108, 101, 116, 10] w8 rfl HR8.out.pr (by have := HLe.out; simp only [List.length_append, List.length_cons, List.length_nil]; omega))
    go_wp2_with fail
    refine HP9.out.mono ?_
    rintro r w9 ⟨rfl, h9⟩
    have HR9 := Lib.hid h9
    have HW9 := Lib.hid (HW8.out.trans h9)
    have Hb9 := Lib.hid (h9.blk Hb8.out (by omega) (by decide))
    have m0 := Hb9.out.cell 0
    have m1 := Hb9.out.cell 1
    have m2 := Hb9.out.cell 2
    have m3 := Hb9.out.cell 3
    have m4 := Hb9.out.cell 4
    clear h9 HP9 HR8 Hb8
    clear m0 m1 m2 m3
    go_wp2_with fail
    go_loopw [51] (fun i wr => ∃ j : Nat, j ≤ nQ ∧ i = .int .i64 (j : Int) ∧ Wr b ((acc ++ ([110, 111, 100, 101, 32] ++ (name ++ [40])) ++ T1 ++ [41, 32, 114, 101, 116, 117, 114, 110, 115, 32, 40] ++ T2 ++ [41, 59, 10] ++ [118, 97, 114, 32] ++ T3 ++ [59, 10] ++ [108, 101, 116, 10]) ++ ((eqs.take j).map eqT).flatten) w9 wr) (fun i _ => nQ - (RowKit.intOf i).toNat)
    case atStart => exact ⟨0, Nat.zero_le _, rfl, by simpa using HR9.out.pr.refl⟩
    case round =>
      obtain ⟨j, hj, rfl, hW⟩ := hrel
      by_cases hp : j < nQ
      · have hjl : j < eqs.length := by rw [← NQ.out]; exact hp
        have hQw := HQ.out.below (HW9.out.bel.trans hW.bel)
        obtain ⟨bb, oo, rfl, hbb⟩ := hQw.hd.at_ (by omega)
        obtain ⟨q, hq⟩ : ∃ q, q = eqs[j] := ⟨_, rfl⟩
        have hat : ∀ i u, i < 10 → q.vals[i]? = some u → wr.cell? ⟨bb, oo + j * 10 + i, none⟩ = some u := fun i u hi hu => hQw.at_ hjl i u hi (by rw [← hq]; exact hu)
        have c0 : wr.cell? ⟨bb, oo + j * 10, none⟩ = some (.int .i64 q.pos) := hat 0 _ (by decide) rfl
        have c1 := hat 1 _ (by decide) rfl
        have c2 := hat 2 _ (by decide) rfl
        have c3 := hat 3 _ (by decide) rfl
        have c4 := hat 4 _ (by decide) rfl
        have c5 := hat 5 _ (by decide) rfl
        have c6 := hat 6 _ (by decide) rfl
        have c7 := hat 7 _ (by decide) rfl
        have c8 := hat 8 _ (by decide) rfl
        have c9 := hat 9 _ (by decide) rfl
        have hql : q.Lies wr b := by rw [hq]; exact (HE.out _ (List.getElem_mem hjl)).below (HW9.out.bel.trans hW.bel)
        have hT := eqs_take eqs j hjl
        have hle := eqs_le eqs (j + 1)
        rw [← hq] at hT
        rw [hT, ← HT4.out] at hle
        simp only [List.length_append, eqT, List.length_cons, List.length_nil] at hle
        obtain ⟨V, hV⟩ : ∃ V, V = q.vals.toArray := ⟨_, rfl⟩
        have hVe : V = #[.int .i64 q.pos, .slice (some ⟨q.bb, q.oo, none⟩) 1 1, .int .i64 q.e.op, .int .i64 q.e.pos, .int .i64 q.e.n, .string ⟨q.e.name.toArray⟩, .slice q.e.A q.e.l.length q.e.c, .string { data := #[] }, .slice none 0 0, .string { data := #[] }] := hV
        obtain ⟨W3, hW3⟩ : ∃ W3, W3 = wr.alloc (.cells #[.int .i64 q.pos, .slice (some ⟨q.bb, q.oo, none⟩) 1 1, .int .i64 q.e.op, .int .i64 q.e.pos, .int .i64 q.e.n, .string ⟨q.e.name.toArray⟩, .slice q.e.A q.e.l.length q.e.c, .string { data := #[] }, .slice none 0 0, .string { data := #[] }] 37) := ⟨_, rfl⟩
        have h3 : Wr b ((acc ++ ([110, 111, 100, 101, 32] ++ (name ++ [40])) ++ T1 ++ [41, 32, 114, 101, 116, 117, 114, 110, 115, 32, 40] ++ T2 ++ [41, 59, 10] ++ [118, 97, 114, 32] ++ T3 ++ [59, 10] ++ [108, 101, 116, 10]) ++ ((eqs.take j).map eqT).flatten) wr W3 := by rw [hW3]; exact Wr.ofAlloc hW.pr _
        have hb3 : Blk W3 wr.heap.size 37 #[.int .i64 q.pos, .slice (some ⟨q.bb, q.oo, none⟩) 1 1, .int .i64 q.e.op, .int .i64 q.e.pos, .int .i64 q.e.n, .string ⟨q.e.name.toArray⟩, .slice q.e.A q.e.l.length q.e.c, .string { data := #[] }, .slice none 0 0, .string { data := #[] }] := by rw [hW3]; exact heap_alloc_new wr _
        have hbr : b < wr.heap.size := hW.pr.lt
        obtain ⟨F, hF⟩ : ∃ F, F = ((eqs.take j).map eqT).flatten := ⟨_, rfl⟩
        rw [← hF] at h3 hW hle hT
        have HPa := Lib.hid (put1 b (wr.heap.size + 1) ((acc ++ ([110, 111, 100, 101, 32] ++ (name ++ [40])) ++ T1 ++ [41, 32, 114, 101, 116, 117, 114, 110, 115, 32, 40] ++ T2 ++ [41, 59, 10] ++ [118, 97, 114, 32] ++ T3 ++ [59, 10] ++ [108, 101, 116, 10]) ++ F) [32, 32] W3 (by rw [hW3]; simp) h3.pr (by have := HLe.out; simp only [List.length_append, List.length_cons, List.length_nil]; omega))
        have HX3 := Lib.hid (hW.trans h3)
        have HB3 := Lib.hid hb3
        have HQl := Lib.hid (hql.below h3.bel)
        have HTs := Lib.hid hT
        have Hle := Lib.hid hle
        have Hbr := Lib.hid hbr
        clear hQw hbb hq hat hql hT hle hV hVe h3 hb3 hbr hW hF
        subst hW3
        go_wp2_with fail
        refine HPa.out.mono ?_
        rintro r x4 ⟨rfl, h4⟩
        have hb4 := h4.blk HB3.out (by have := Hbr.out; omega) (by decide)
        have n0 := hb4.cell 0
        have n1 := hb4.cell 1
        have n2 := hb4.cell 2
        have n3 := hb4.cell 3
        have n4 := hb4.cell 4
        have n5 := hb4.cell 5
        have n6 := hb4.cell 6
        have n7 := hb4.cell 7
        have n8 := hb4.cell 8
        have n9 := hb4.cell 9
        have HX4 := Lib.hid (HX3.out.trans h4)
        have HC := Lib.hid (eqn_any b _ q x4 h4.pr (HQl.out.below h4.bel) (HT.out.next ((HW9.out.trans HX3.out).trans h4).bel) (by have := HLe.out; have := Hle.out; simp only [List.length_append, List.length_cons, List.length_nil] at this ⊢; omega))
        unfold Qp.vals at HC
        clear h4 hb4 HPa c0 c1 c2 c3 c4 c5 c6 c7 c8 c9
        go_wp2_with fail
        refine HC.out.mono ?_
        rintro r x5 ⟨rfl, h5⟩
        have HX5 := Lib.hid (HX4.out.trans h5)
        have HPc := Lib.hid (put1 b x5.heap.size _ [59, 10] x5 rfl h5.pr (by have := HLe.out; have := Hle.out; simp only [List.length_append, List.length_cons, List.length_nil] at this ⊢; omega))
        clear h5 HC n0 n1 n2 n3 n4 n5 n6 n7 n8 n9
        go_wp2_with fail
        refine HPc.out.mono ?_
        rintro r x6 ⟨rfl, h6⟩
        have HXn := Lib.hid (HX5.out.trans h6)
        clear h6 HPc
        go_wp2
        go_roundw
        case rel => exact ⟨j + 1, by omega, by go_num, by rw [HTs.out]; simpa only [eqT, List.append_assoc] using HXn.out⟩
        case measure => simp [RowKit.intOf]; omega
      · obtain rfl : j = nQ := by omega
        have HX := Lib.hid hW
        rw [NQ.out, List.take_length, ← HT4.out] at HX
        have HPe := Lib.hid (put1 b wr.heap.size _ [116, 101, 108, 10] wr rfl HX.out.pr (by have := HLe.out; simp only [List.length_append, List.length_cons, List.length_nil]; omega))
        clear hW
        go_wp2_with fail
        refine HPe.out.mono ?_
        rintro r x7 ⟨rfl, h7⟩
        have HXn := Lib.hid (HW9.out.trans (HX.out.trans h7))
        clear h7 HPe
        go_wp2
        go_end0
        exact ⟨rfl, by rw [HS.out, if_neg H0.out]; simpa only [List.append_assoc, List.nil_append] using HXn.out⟩
end Go.Proofs.YtpfehddkaapjiaaDoor
