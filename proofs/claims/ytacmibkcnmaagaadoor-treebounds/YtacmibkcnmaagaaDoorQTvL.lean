/-
  The walk of tree's Valid. Conditions: each theorem's own premises.
-/
import Derived.Test.YtacmibkcnmaagaaDoorQTvK
import Derived.Test.YtacmibkcnmaagaaDoorQTvE
namespace Go.Proofs.YtacmibkcnmaagaaDoor
open Go.RowKit Go.Lib Go.Sort Go.Shelf
attribute [local go_sem] Oper.semAt_some

set_option maxRecDepth 100000 in
set_option maxHeartbeats 4000000 in
theorem valid_any (n : Ng) (w : World) (er : Nat → Addr) (hT : Te w er) (hx : n.Lies w (· < w.heap.size)) (d : Nat) (hf : ∀ x ∈ n.eqs, x.fits d) (hl : n.eqs.length ≤ 100000) (hz : n.ins.length ≤ 1000000 ∧ n.outs.length ≤ 1000000 ∧ n.locs.length ≤ 1000000) :
    Calls Tryd.prog 9 #[n.val] w (RetVa w er (validE n)) := by
  have hx2 : ∀ W, Below w.heap.size w W → n.Lies W (· < W.heap.size) := fun W hB => hx.next hB
  have HV := Lib.hid (fun W => badName_any n.name W)
  have HM := Lib.hid (fun W (h : Below w.heap.size w W) => tooMany_any n d W hf hl (hx2 W h) hz)
  have HD := Lib.hid (fun W (h : Below w.heap.size w W) => tooDeep_any n W (hx2 W h))
  have HVar := Lib.hid (fun W (h : Below w.heap.size w W) => variables_any n W (hx2 W h) hz)
  have HX := Lib.hid hx2
  have HX0 := Lib.hid (fun W (h : Below w.heap.size w W) => hx.keep (K' := (· < w.heap.size)) (fun _ hb => hb) fun _ hp => h.cell hp)
  have HF := Lib.hid hf
  clear hx hf hx2
  have hP : validE n = if badN n.name = true then some (none, 8) else if manyB n = true then some (none, 2) else if n.eqs.any deepQ = true then some (none, 7) else
    match declsE (n.ins.length + n.outs.length) 0 (n.ins ++ (n.outs ++ n.locs)) with
    | some x => some (some x.1, x.2)
    | none => (eqsE n.eqs).map fun x => (some x.1, x.2) := rfl
  have HP := Lib.hid hP
  clear hP
  obtain ⟨name, iA, ic, ins, oA, oc, outs, lA, lc, locs, qA, qc, eqs⟩ := n
  unfold Ng.val at HM HD HVar ⊢
  dsimp only at HV HM HD HVar HF hl hz ⊢
  generalize manyB _ = b2 at *
  obtain ⟨W1, hW1⟩ : ∃ W1, W1 = (w.alloc (.cells #[.string ⟨name.toArray⟩, .slice iA ins.length ic, .slice oA outs.length oc, .slice lA locs.length lc, .slice qA eqs.length qc] 30)).alloc (.cells #[.nilIface] 39) := ⟨_, rfl⟩
  have hB1 : Below w.heap.size w W1 := by rw [hW1]; exact ((Below.refl _ _).alloc (Nat.le_refl _) _).alloc (by simp) _
  have hb1 : Blk W1 w.heap.size 30 #[.string ⟨name.toArray⟩, .slice iA ins.length ic, .slice oA outs.length oc, .slice lA locs.length lc, .slice qA eqs.length qc] := by rw [hW1]; exact (blk_new rfl).alloc _
  have hr1 : Blk W1 (w.heap.size + 1) 39 #[.nilIface] := by rw [hW1]; exact blk_new (by simp)
  have HB1 := Lib.hid hB1
  have Hb1 := Lib.hid hb1
  have Hr1 := Lib.hid hr1
  obtain ⟨⟨k0, k1, k2, k3, k4⟩, -⟩ := blkx hb1
  have HT1 := Lib.hid (hT.below hB1)
  clear hB1 hb1 hr1 hT
  refine (callsIn_wide (n := 4)).1 ?_
  refine callsIn_of_wp_marks Tryd.func9 rfl trivial ?_ rfl
  simp only [Tryd.ntmps9, List.size_toArray, List.length_cons, List.length_nil, Nat.reduceAdd, Nat.reduceSub, Array.replicate_succ, Array.replicate_zero, List.push_toArray, List.append_toArray, List.nil_append, List.cons_append]
  refine wpIn_wide.2 ?_
  go_wp2_with fail
  rw [← hW1]
  clear hW1
  refine (HV.out _).mono ?_
  rintro e w2 ⟨rfl, hB2⟩
  have HB2 := Lib.hid (HB1.out.trans (hB2.mono HB1.out.size))
  have hb2 := Hb1.out.below hB2 Hb1.out.lt
  clear k0 k1 k2 k3 k4
  obtain ⟨⟨k0, k1, k2, k3, k4⟩, -⟩ := blkx hb2
  have Hb2 := Lib.hid hb2
  have hr2 := Hr1.out.below hB2 Hr1.out.lt
  have r2 := hr2.cell 0
  have f2 := hr2.free 0
  have Hr2 := Lib.hid hr2
  have HT2 := Lib.hid (HT1.out.below hB2)
  have e2 := HT2.out.name
  clear hB2 hb2 hr2
  by_cases c1 : badN name = true
  · rw [c1]
    have HR : Hid (RetVa w er (validE ⟨name, iA, ic, ins, oA, oc, outs, lA, lc, locs, qA, qc, eqs⟩) (.returned (erO er (some 8))) (w2.setCell ⟨w.heap.size + 1, 0, none⟩ (erO er (some 8)))) := Lib.hid (by rw [HP.out, if_pos c1]; exact ⟨HB2.out.setCell (by show w.heap.size ≤ w.heap.size + 1; omega) _, rfl⟩)
    have HS := Lib.hid (Hr2.out.set 0 (erO er (some 8)))
    go_wp2
    exact valid_leave rfl (Marks.nil _ _) HS.out HR.out
  rw [show badN name = false from by simpa using c1]
  go_wp2_with fail
  refine (HM.out w2 HB2.out).mono ?_
  rintro e w3 ⟨rfl, hB3⟩
  have HB3 := Lib.hid (HB2.out.trans (hB3.mono HB2.out.size))
  have hb3 := Hb2.out.below hB3 Hb2.out.lt
  clear k0 k1 k2 k3 k4
  obtain ⟨⟨k0, k1, k2, k3, k4⟩, -⟩ := blkx hb3
  have Hb3 := Lib.hid hb3
  have hr3 := Hr2.out.below hB3 Hr2.out.lt
  have r3 := hr3.cell 0
  have f3 := hr3.free 0
  have Hr3 := Lib.hid hr3
  have HT3 := Lib.hid (HT2.out.below hB3)
  have e3 := HT3.out.many
  clear hB3 hb3 hr3 Hb2 Hr2 HT2 e2 r2 f2
  by_cases c2 : b2 = true
  · rw [c2]
    have HR : Hid (RetVa w er (validE ⟨name, iA, ic, ins, oA, oc, outs, lA, lc, locs, qA, qc, eqs⟩) (.returned (erO er (some 2))) (w3.setCell ⟨w.heap.size + 1, 0, none⟩ (erO er (some 2)))) := Lib.hid (by rw [HP.out, if_neg c1, if_pos c2]; exact ⟨HB3.out.setCell (by show w.heap.size ≤ w.heap.size + 1; omega) _, rfl⟩)
    have HS := Lib.hid (Hr3.out.set 0 (erO er (some 2)))
    go_wp2
    exact valid_leave rfl (Marks.nil _ _) HS.out HR.out
  rw [show b2 = false from by simpa using c2]
  go_wp2_with fail
  refine (HD.out w3 HB3.out).mono ?_
  rintro e w4 ⟨rfl, hB4⟩
  have HB4 := Lib.hid (HB3.out.trans (hB4.mono HB3.out.size))
  have hb4 := Hb3.out.below hB4 Hb3.out.lt
  clear k0 k1 k2 k3 k4
  obtain ⟨⟨k0, k1, k2, k3, k4⟩, -⟩ := blkx hb4
  have Hb4 := Lib.hid hb4
  have hr4 := Hr3.out.below hB4 Hr3.out.lt
  have r4 := hr4.cell 0
  have f4 := hr4.free 0
  have Hr4 := Lib.hid hr4
  have HT4 := Lib.hid (HT3.out.below hB4)
  have e4 := HT4.out.deep
  clear hB4 hb4 hr4 Hb3 Hr3 HT3 e3 r3 f3
  by_cases c3 : eqs.any deepQ = true
  · rw [c3]
    have HR : Hid (RetVa w er (validE ⟨name, iA, ic, ins, oA, oc, outs, lA, lc, locs, qA, qc, eqs⟩) (.returned (erO er (some 7))) (w4.setCell ⟨w.heap.size + 1, 0, none⟩ (erO er (some 7)))) := Lib.hid (by rw [HP.out, if_neg c1, if_neg c2, if_pos c3]; exact ⟨HB4.out.setCell (by show w.heap.size ≤ w.heap.size + 1; omega) _, rfl⟩)
    have HS := Lib.hid (Hr4.out.set 0 (erO er (some 7)))
    go_wp2
    exact valid_leave rfl (Marks.nil _ _) HS.out HR.out
  rw [show eqs.any deepQ = false from by simpa using c3]
  go_wp2_with fail
  refine (HVar.out w4 HB4.out).mono ?_
  rintro e w5 ⟨v5, rfl, hO5, hB5⟩
  have HB5 := Lib.hid (HB4.out.trans (hB5.mono HB4.out.size))
  have hb5 := Hb4.out.below hB5 Hb4.out.lt
  clear k0 k1 k2 k3 k4
  obtain ⟨⟨k0, k1, k2, k3, k4⟩, -⟩ := blkx hb5
  have Hb5 := Lib.hid hb5
  have Hr5 := Lib.hid (Hr4.out.below hB5 Hr4.out.lt)
  have HT5 := Lib.hid (HT4.out.below hB5)
  obtain ⟨vs, hvs⟩ : ∃ vs, vs = ins ++ (outs ++ locs) := ⟨_, rfl⟩
  rw [← hvs] at hO5
  obtain ⟨A5, c5, rfl, hRw, -, -, -, hAd⟩ := hO5.rw
  have HAD : Hid (∀ ad : Addr, A5 = some ad → ∃ g, ad = ⟨g, 0, none⟩) := Lib.hid (fun ad e => ⟨_, (hAd ad e).1⟩)
  clear hAd
  have HR5 := Lib.hid hRw
  have HVS := Lib.hid hvs
  obtain ⟨m, hm⟩ : ∃ m, m = vs.length := ⟨_, rfl⟩
  have hm3 : m ≤ 3000000 := by rw [hm, hvs]; simp; omega
  have HMe := Lib.hid hm
  rw [← hm]
  clear hB5 hb5 hO5 hRw hvs hm Hb4 Hr4 HT4 e4 r4 f4
  have HLC : Hid (∀ W, Below w.heap.size w W → ∀ x ∈ vs, Sl LC W (· < W.heap.size) x.A x.c x.cks) := Lib.hid (fun W hW x hxm => by
    have h := HX.out W hW
    rw [HVS.out, List.mem_append, List.mem_append] at hxm
    rcases hxm with h1 | h1 | h1
    · exact h.i.all x h1
    · exact h.o.all x h1
    · exact h.l.all x h1)
  have HD0 : Hid (declsE (ins.length + outs.length) 0 vs = declsE (ins.length + outs.length) 0 (vs.drop 0)) := Lib.hid rfl
  obtain ⟨li, hli⟩ : ∃ li, li = ins.length := ⟨_, rfl⟩
  obtain ⟨lo, hlo⟩ : ∃ lo, lo = outs.length := ⟨_, rfl⟩
  obtain ⟨ll, hll⟩ : ∃ ll, ll = locs.length := ⟨_, rfl⟩
  obtain ⟨lq, hlq⟩ : ∃ lq, lq = eqs.length := ⟨_, rfl⟩
  rw [← hli, ← hlo, ← hll] at hz
  rw [← hlq] at hl
  rw [← hli, ← hlo] at HD0
  simp only [← hli, ← hlo, ← hll, ← hlq] at k0 k1 k2 k3 k4 Hb5 ⊢
  have HLI := Lib.hid hli
  have HLO := Lib.hid hlo
  have HLL := Lib.hid hll
  have HLQ := Lib.hid hlq
  clear hli hlo hll hlq
  go_wp2
  go_loopw [28] (fun x wr => ∃ k : Nat, x = .int .i64 (k : Int) ∧ k ≤ m ∧ Hid (Below w5.heap.size w5 wr) ∧ Hid (declsE (li + lo) 0 vs = declsE (li + lo) k (vs.drop k))) (fun x _ => m - (RowKit.intOf x).toNat)
  case atStart => exact ⟨0, rfl, Nat.zero_le _, Lib.hid (Below.refl _ _), HD0⟩
  case round =>
    clear HD0
    obtain ⟨k, rfl, hk, HBk, HDk⟩ := hrel
    by_cases hkm : k < m
    · have hkI : (k : Int) < m := by omega
      have hkl : k < vs.length := by have := HMe.out; omega
      have hbk := Hb5.out.below HBk.out Hb5.out.lt
      have hrk := Hr5.out.below HBk.out Hr5.out.lt
      have hTk := HT5.out.below HBk.out
      clear k0 k1 k2 k3 k4
      obtain ⟨⟨k0, k1, k2, k3, k4⟩, -⟩ := blkx hbk
      have HBw := Lib.hid (HB5.out.trans (HBk.out.mono HB5.out.size))
      have hsz : w.heap.size + 2 ≤ wr.heap.size := by have := hrk.lt; omega
      obtain ⟨x, hxk⟩ : ∃ x, x = vs[k] := ⟨_, rfl⟩
      have hxm : x ∈ vs := by rw [hxk]; exact List.getElem_mem hkl
      obtain ⟨ad, rfl, hg, hc⟩ := HR5.out.pick hkl
      rw [← hxk] at hc
      obtain ⟨g, rfl⟩ := HAD.out ad rfl
      have hE : declsE (li + lo) k (vs.drop k) = match declE x (decide (li + lo ≤ k)) with | some q => some (x.pos, q) | none => declsE (li + lo) (k + 1) (vs.drop (k + 1)) := by rw [declsE_drop _ _ _ hkl, ← hxk]; cases declE x (decide (li + lo ≤ k)) <;> rfl
      have p : ∀ j u, x.vals[j]? = some u → wr.cell? ⟨g, k * 4 + j, none⟩ = some u := fun j u hu => by
        have h1 := (HBk.out.cell (p := Addr.add ⟨g, 0, none⟩ (k * 4 + j)) (by rw [add_block]; exact hg)).trans (hc j u hu)
        rw [lit_add] at h1
        exact h1
      obtain ⟨pos, nm, ty, cA, cc, cks⟩ := x
      have p0 : wr.cell? ⟨g, k * 4, none⟩ = _ := p 0 _ rfl
      have p1 := p 1 _ rfl
      have p2 := p 2 _ rfl
      have p3 := p 3 _ rfl
      have HE := Lib.hid hE
      have Hxm := Lib.hid hxm
      have Hbk := Lib.hid hbk
      have Hrk := Lib.hid hrk
      have HTk := Lib.hid hTk
      clear hE hxm hbk hrk hTk p hc hxk hg
      have q : (((li : Int) + lo ≤ k) ∧ decide (li + lo ≤ k) = true) ∨ ((¬ (li : Int) + lo ≤ k) ∧ decide (li + lo ≤ k) = false) := by
        by_cases h : li + lo ≤ k
        · exact .inl ⟨by omega, by simpa using h⟩
        · exact .inr ⟨by omega, by simpa using h⟩
      obtain ⟨bl, hbl⟩ : ∃ bl, bl = decide (li + lo ≤ k) := ⟨_, rfl⟩
      rw [← hbl] at HE q
      dsimp only at HE
      clear hbl
      have hW6 : Below wr.heap.size wr (wr.alloc (.cells #[.int .i64 pos, .string ⟨nm.toArray⟩, .int .i64 ty, .slice cA cks.length cc] 26)) := (Below.refl _ _).alloc (Nat.le_refl _) _
      have HW6 := Lib.hid (HBw.out.trans (hW6.mono HBw.out.size))
      have hb6 := Hbk.out.alloc (.cells #[.int .i64 pos, .string ⟨nm.toArray⟩, .int .i64 ty, .slice cA cks.length cc] 26)
      obtain ⟨⟨j0, j1, j2, j3, j4⟩, -⟩ := blkx hb6
      have Hr6 := Lib.hid (Hrk.out.alloc (.cells #[.int .i64 pos, .string ⟨nm.toArray⟩, .int .i64 ty, .slice cA cks.length cc] 26))
      have hd6 : Blk (wr.alloc (.cells #[.int .i64 pos, .string ⟨nm.toArray⟩, .int .i64 ty, .slice cA cks.length cc] 26)) wr.heap.size 26 #[.int .i64 pos, .string ⟨nm.toArray⟩, .int .i64 ty, .slice cA cks.length cc] := heap_alloc_new wr _
      have Hd6 := Lib.hid hd6
      have i0 := hd6.cell 0
      have i1 := hd6.cell 1
      have i2 := hd6.cell 2
      have i3 := hd6.cell 3
      have HT6 := Lib.hid (HTk.out.below hW6)
      have hDE : Hid (∀ b, Calls Tryd.prog 34 #[.agg #[.int .i64 pos, .string ⟨nm.toArray⟩, .int .i64 ty, .slice cA cks.length cc], .bool b] (wr.alloc (.cells #[.int .i64 pos, .string ⟨nm.toArray⟩, .int .i64 ty, .slice cA cks.length cc] 26)) fun r w' => r = .returned (erO er (declE ⟨pos, nm, ty, cA, cc, cks⟩ b)) ∧ Below (wr.alloc (.cells #[.int .i64 pos, .string ⟨nm.toArray⟩, .int .i64 ty, .slice cA cks.length cc] 26)).heap.size (wr.alloc (.cells #[.int .i64 pos, .string ⟨nm.toArray⟩, .int .i64 ty, .slice cA cks.length cc] 26)) w') := Lib.hid (fun b => declError_any ⟨pos, nm, ty, cA, cc, cks⟩ b _ er HT6.out (HLC.out _ HW6.out _ Hxm.out))
      clear hW6 hb6 hd6
      rcases q with ⟨qq, rfl⟩ | ⟨qq, rfl⟩
      · obtain ⟨oe, hoe⟩ : ∃ oe, oe = declE ⟨pos, nm, ty, cA, cc, cks⟩ true := ⟨_, rfl⟩
        rw [← hoe] at HE
        have hDE2 := hDE.out true
        rw [← hoe] at hDE2
        have HDE := Lib.hid hDE2
        clear hDE2 hoe
        cases oe with
        | none =>
          have HDn : Hid (declsE (li + lo) 0 vs = declsE (li + lo) (k + 1) (vs.drop (k + 1))) := Lib.hid (HDk.out.trans HE.out)
          have hDE3 := HDE.out
          simp only [erO] at hDE3
          have HDE3 := Lib.hid hDE3
          clear hDE3
          go_wp2_with fail
          refine HDE3.out.mono ?_
          rintro e w6 ⟨rfl, hB6⟩
          have HB6 : Hid (Below w5.heap.size w5 w6) := Lib.hid ((HBk.out.trans (((Below.refl _ _).alloc (Nat.le_refl _) _).mono HBk.out.size)).trans (hB6.mono (by have := HBk.out.size; simp; omega)))
          clear hB6
          go_wp2
          go_roundw
          case rel => exact ⟨k + 1, by go_num, by omega, HB6, HDn⟩
          case measure => simp [RowKit.intOf]; omega
        | some q =>
          have HO : Hid (validE ⟨name, iA, ic, ins, oA, oc, outs, lA, lc, locs, qA, qc, eqs⟩ = some (some pos, q)) := Lib.hid (by
            rw [HP.out, if_neg c1, if_neg c2, if_neg c3, ← HVS.out, ← HLI.out, ← HLO.out, HDk.out, HE.out])
          have hDE3 := HDE.out
          simp only [erO] at hDE3
          have HDE3 := Lib.hid hDE3
          clear hDE3
          go_wp2_with fail
          refine HDE3.out.mono ?_
          rintro e w6 ⟨rfl, hB6⟩
          have hd7 := Hd6.out.below hB6 Hd6.out.lt
          have hr7 := Hr6.out.below hB6 Hr6.out.lt
          have i0 := hd7.cell 0
          have r7 := hr7.cell 0
          have f7 := hr7.free 0
          have HB6 := Lib.hid (HW6.out.trans (hB6.mono HW6.out.size))
          have Hr7 := Lib.hid hr7
          clear hB6 hd7 hr7
          have hr8 := Hr7.out.alloc (.cells #[.int .i64 pos, .iface 188 (.pointer (some (er q)))] 64)
          have r8 := hr8.cell 0
          have f8 := hr8.free 0
          have ha8 : Blk (w6.alloc (.cells #[.int .i64 pos, .iface 188 (.pointer (some (er q)))] 64)) w6.heap.size 64 #[.int .i64 pos, .iface 188 (.pointer (some (er q)))] := heap_alloc_new w6 _
          have hz8 : w.heap.size + 1 < w6.heap.size := Hr7.out.lt
          have HR : Hid (RetVa w er (validE ⟨name, iA, ic, ins, oA, oc, outs, lA, lc, locs, qA, qc, eqs⟩) (.returned (.iface 62 (.pointer (some ⟨w6.heap.size, 0, none⟩)))) ((w6.alloc (.cells #[.int .i64 pos, .iface 188 (.pointer (some (er q)))] 64)).setCell ⟨w.heap.size + 1, 0, none⟩ (.iface 62 (.pointer (some ⟨w6.heap.size, 0, none⟩))))) := Lib.hid (by
            rw [HO.out]
            exact ⟨(HB6.out.alloc (by omega) _).setCell (by show w.heap.size ≤ w.heap.size + 1; omega) _, w6.heap.size, by omega, rfl, ha8.far (p := ⟨w.heap.size + 1, 0, none⟩) (by simp; omega) _⟩)
          have HS := Lib.hid (hr8.set 0 (.iface 62 (.pointer (some ⟨w6.heap.size, 0, none⟩))))
          clear hr8 ha8 hz8
          go_wp2
          exact valid_leave rfl (Marks.nil _ _) HS.out HR.out
      · obtain ⟨oe, hoe⟩ : ∃ oe, oe = declE ⟨pos, nm, ty, cA, cc, cks⟩ false := ⟨_, rfl⟩
        rw [← hoe] at HE
        have hDE2 := hDE.out false
        rw [← hoe] at hDE2
        have HDE := Lib.hid hDE2
        clear hDE2 hoe
        cases oe with
        | none =>
          have HDn : Hid (declsE (li + lo) 0 vs = declsE (li + lo) (k + 1) (vs.drop (k + 1))) := Lib.hid (HDk.out.trans HE.out)
          have hDE3 := HDE.out
          simp only [erO] at hDE3
          have HDE3 := Lib.hid hDE3
          clear hDE3
          go_wp2_with fail
          refine HDE3.out.mono ?_
          rintro e w6 ⟨rfl, hB6⟩
          have HB6 : Hid (Below w5.heap.size w5 w6) := Lib.hid ((HBk.out.trans (((Below.refl _ _).alloc (Nat.le_refl _) _).mono HBk.out.size)).trans (hB6.mono (by have := HBk.out.size; simp; omega)))
          clear hB6
          go_wp2
          go_roundw
          case rel => exact ⟨k + 1, by go_num, by omega, HB6, HDn⟩
          case measure => simp [RowKit.intOf]; omega
        | some q =>
          have HO : Hid (validE ⟨name, iA, ic, ins, oA, oc, outs, lA, lc, locs, qA, qc, eqs⟩ = some (some pos, q)) := Lib.hid (by
            rw [HP.out, if_neg c1, if_neg c2, if_neg c3, ← HVS.out, ← HLI.out, ← HLO.out, HDk.out, HE.out])
          have hDE3 := HDE.out
          simp only [erO] at hDE3
          have HDE3 := Lib.hid hDE3
          clear hDE3
          go_wp2_with fail
          refine HDE3.out.mono ?_
          rintro e w6 ⟨rfl, hB6⟩
          have hd7 := Hd6.out.below hB6 Hd6.out.lt
          have hr7 := Hr6.out.below hB6 Hr6.out.lt
          have i0 := hd7.cell 0
          have r7 := hr7.cell 0
          have f7 := hr7.free 0
          have HB6 := Lib.hid (HW6.out.trans (hB6.mono HW6.out.size))
          have Hr7 := Lib.hid hr7
          clear hB6 hd7 hr7
          have hr8 := Hr7.out.alloc (.cells #[.int .i64 pos, .iface 188 (.pointer (some (er q)))] 64)
          have r8 := hr8.cell 0
          have f8 := hr8.free 0
          have ha8 : Blk (w6.alloc (.cells #[.int .i64 pos, .iface 188 (.pointer (some (er q)))] 64)) w6.heap.size 64 #[.int .i64 pos, .iface 188 (.pointer (some (er q)))] := heap_alloc_new w6 _
          have hz8 : w.heap.size + 1 < w6.heap.size := Hr7.out.lt
          have HR : Hid (RetVa w er (validE ⟨name, iA, ic, ins, oA, oc, outs, lA, lc, locs, qA, qc, eqs⟩) (.returned (.iface 62 (.pointer (some ⟨w6.heap.size, 0, none⟩)))) ((w6.alloc (.cells #[.int .i64 pos, .iface 188 (.pointer (some (er q)))] 64)).setCell ⟨w.heap.size + 1, 0, none⟩ (.iface 62 (.pointer (some ⟨w6.heap.size, 0, none⟩))))) := Lib.hid (by
            rw [HO.out]
            exact ⟨(HB6.out.alloc (by omega) _).setCell (by show w.heap.size ≤ w.heap.size + 1; omega) _, w6.heap.size, by omega, rfl, ha8.far (p := ⟨w.heap.size + 1, 0, none⟩) (by simp; omega) _⟩)
          have HS := Lib.hid (hr8.set 0 (.iface 62 (.pointer (some ⟨w6.heap.size, 0, none⟩))))
          clear hr8 ha8 hz8
          go_wp2
          exact valid_leave rfl (Marks.nil _ _) HS.out HR.out
    · have hkI : ¬ (k : Int) < m := by omega
      have hO : Hid (validE ⟨name, iA, ic, ins, oA, oc, outs, lA, lc, locs, qA, qc, eqs⟩ = (eqsE eqs).map fun x => (some x.1, x.2)) := Lib.hid (by
        rw [HP.out, if_neg c1, if_neg c2, if_neg c3, ← HVS.out, ← HLI.out, ← HLO.out, HDk.out, List.drop_eq_nil_of_le (by have := HMe.out; omega)]
        rfl)
      have hbk := Hb5.out.below HBk.out Hb5.out.lt
      have hrk := Hr5.out.below HBk.out Hr5.out.lt
      have hTk := HT5.out.below HBk.out
      clear k0 k1 k2 k3 k4
      obtain ⟨⟨k0, k1, k2, k3, k4⟩, -⟩ := blkx hbk
      have HBw := Lib.hid (HB5.out.trans (HBk.out.mono HB5.out.size))
      have Hbk := Lib.hid hbk
      have Hrk := Lib.hid hrk
      have HTk := Lib.hid hTk
      have HE0 : Hid (eqsE eqs = eqsE (eqs.drop 0)) := Lib.hid rfl
      clear hbk hrk hTk c1 c2 c3 HP HDk HBk HD HM HV HVar HR5 HLC HAD HT5 Hr5 Hb5 HB5 HMe HVS hk
      -- LOOP2
      go_wp2_with fail
      refine wp_loop (fun a W => ∃ (k2 : Nat) (ds : List Deferred) (t0 t1 t3 t4 t5 t6 t7 t8 t9 t10 t11 t12 t13 t14 t15 t16 t17 t18 t19 t20 t21 t22 t23 t24 t25 t26 t27 t28 t29 t30 t31 t32 t33 t34 t35 t36 t37 t38 t39 t40 t41 t42 t43 t44 t45 t46 t47 t48 t49 t50 t51 t52 t53 t54 t58 t59 t60 t61 t62 t63 t64 t65 t66 t67 t68 t69 t70 t71 t72 t73 t74 t75 t76 t77 t78 t79 t80 t81 t82 t83 t84 t85 : Value), a = { tmps := (t0 :: t1 :: (.pointer (some ⟨w.heap.size + 1, 0, none⟩)) :: t3 :: t4 :: t5 :: t6 :: t7 :: t8 :: t9 :: t10 :: t11 :: t12 :: t13 :: t14 :: t15 :: t16 :: t17 :: t18 :: t19 :: t20 :: t21 :: t22 :: t23 :: t24 :: t25 :: t26 :: t27 :: t28 :: t29 :: t30 :: t31 :: t32 :: t33 :: t34 :: t35 :: t36 :: t37 :: t38 :: t39 :: t40 :: t41 :: t42 :: t43 :: t44 :: t45 :: t46 :: t47 :: t48 :: t49 :: t50 :: t51 :: t52 :: t53 :: t54 :: (.slice qA lq qc) :: (.int .i64 (lq : Int)) :: (.int .i64 (k2 : Int)) :: t58 :: t59 :: t60 :: t61 :: t62 :: t63 :: t64 :: t65 :: t66 :: t67 :: t68 :: t69 :: t70 :: t71 :: t72 :: t73 :: t74 :: t75 :: t76 :: t77 :: t78 :: t79 :: t80 :: t81 :: t82 :: t83 :: t84 :: t85 :: ([] : List Value)).toArray, defers := ds } ∧ k2 ≤ lq ∧ Hid (Below wr.heap.size wr W) ∧ Hid (Marks W (w.heap.size + 2) ds) ∧ Hid (eqsE eqs = eqsE (eqs.drop k2))) (fun a _ => lq - (RowKit.intOf (a.tmps.getD 57 undef)).toNat) ?_ ?_
      · exact ⟨0, [], _, _, _, _, _, _, _, _, _, _, _, _, _, _, _, _, _, _, _, _, _, _, _, _, _, _, _, _, _, _, _, _, _, _, _, _, _, _, _, _, _, _, _, _, _, _, _, _, _, _, _, _, _, _, _, _, _, _, _, _, _, _, _, _, _, _, _, _, _, _, _, _, _, _, _, _, _, _, _, _, _, _, rfl, Nat.zero_le _, Lib.hid (Below.refl _ _), Lib.hid (Marks.nil _ _), HE0⟩
      rintro a W ⟨k2, ds, t0, t1, t3, t4, t5, t6, t7, t8, t9, t10, t11, t12, t13, t14, t15, t16, t17, t18, t19, t20, t21, t22, t23, t24, t25, t26, t27, t28, t29, t30, t31, t32, t33, t34, t35, t36, t37, t38, t39, t40, t41, t42, t43, t44, t45, t46, t47, t48, t49, t50, t51, t52, t53, t54, t58, t59, t60, t61, t62, t63, t64, t65, t66, t67, t68, t69, t70, t71, t72, t73, t74, t75, t76, t77, t78, t79, t80, t81, t82, t83, t84, t85, rfl, hk2, HBW, HMk, HEk⟩
      clear HE0
      have hBw := HBw.out.trans (HBW.out.mono HBw.out.size)
      have hrW := Hrk.out.below HBW.out Hrk.out.lt
      have r0 := hrW.cell 0
      have f0 := hrW.free 0
      by_cases hp : k2 < lq
      · have hpI : (k2 : Int) < lq := by omega
        have hp' : k2 < eqs.length := by have := HLQ.out; omega
        have hN := HX0.out W hBw
        have hQs : Qs W (· < w.heap.size) qA eqs := ⟨fun h => hN.q.hd.at_ h, hN.q.row, fun q hq => (hN.e q hq).ly⟩
        obtain ⟨bq, o, hqA, hKb⟩ := hQs.at_ (by omega)
        subst hqA
        obtain ⟨c0, c1, c2, c3, c4, c5, c6, c7, c8, c9⟩ := hQs.ten hp'
        have hm := List.getElem_mem hp'
        have hE := eqsE_drop eqs k2 hp'
        obtain ⟨x, hx⟩ : ∃ x, x = eqs[k2] := ⟨_, rfl⟩
        rw [← hx] at c0 c1 c2 c3 c4 c5 c6 c7 c8 c9 hm hE
        have hal : Below W.heap.size W (W.alloc (.cells #[.int .i64 x.pos, .slice x.lA x.left.length x.lc, .int .i64 x.e.op, .int .i64 x.e.pos, .int .i64 x.e.n, .string ⟨x.e.name.toArray⟩, .slice x.e.A x.e.l.length x.e.c, .string ⟨x.node.toArray⟩, .slice x.A x.l.length x.c, .string ⟨x.every.toArray⟩] 37)) := (Below.refl _ _).alloc (Nat.le_refl _) _
        have hB2 : Below w.heap.size w (W.alloc (.cells #[.int .i64 x.pos, .slice x.lA x.left.length x.lc, .int .i64 x.e.op, .int .i64 x.e.pos, .int .i64 x.e.n, .string ⟨x.e.name.toArray⟩, .slice x.e.A x.e.l.length x.e.c, .string ⟨x.node.toArray⟩, .slice x.A x.l.length x.c, .string ⟨x.every.toArray⟩] 37)) := hBw.trans (hal.mono hBw.size)
        have hBk2 : Below wr.heap.size wr (W.alloc (.cells #[.int .i64 x.pos, .slice x.lA x.left.length x.lc, .int .i64 x.e.op, .int .i64 x.e.pos, .int .i64 x.e.n, .string ⟨x.e.name.toArray⟩, .slice x.e.A x.e.l.length x.e.c, .string ⟨x.node.toArray⟩, .slice x.A x.l.length x.c, .string ⟨x.every.toArray⟩] 37)) := HBW.out.trans (hal.mono HBW.out.size)
        have hEq := equationError_any x (W.alloc (.cells #[.int .i64 x.pos, .slice x.lA x.left.length x.lc, .int .i64 x.e.op, .int .i64 x.e.pos, .int .i64 x.e.n, .string ⟨x.e.name.toArray⟩, .slice x.e.A x.e.l.length x.e.c, .string ⟨x.node.toArray⟩, .slice x.A x.l.length x.c, .string ⟨x.every.toArray⟩] 37)) er (HTk.out.below hBk2) ((HX.out _ hB2).e x hm).left (by have := (HF.out x hm).2.2.2; omega)
        unfold Qx.val at hEq
        have hd2 : Blk (W.alloc (.cells #[.int .i64 x.pos, .slice x.lA x.left.length x.lc, .int .i64 x.e.op, .int .i64 x.e.pos, .int .i64 x.e.n, .string ⟨x.e.name.toArray⟩, .slice x.e.A x.e.l.length x.e.c, .string ⟨x.node.toArray⟩, .slice x.A x.l.length x.c, .string ⟨x.every.toArray⟩] 37)) W.heap.size 37 #[.int .i64 x.pos, .slice x.lA x.left.length x.lc, .int .i64 x.e.op, .int .i64 x.e.pos, .int .i64 x.e.n, .string ⟨x.e.name.toArray⟩, .slice x.e.A x.e.l.length x.e.c, .string ⟨x.node.toArray⟩, .slice x.A x.l.length x.c, .string ⟨x.every.toArray⟩] := heap_alloc_new W _
        have hr2 := hrW.alloc (.cells #[.int .i64 x.pos, .slice x.lA x.left.length x.lc, .int .i64 x.e.op, .int .i64 x.e.pos, .int .i64 x.e.n, .string ⟨x.e.name.toArray⟩, .slice x.e.A x.e.l.length x.e.c, .string ⟨x.node.toArray⟩, .slice x.A x.l.length x.c, .string ⟨x.every.toArray⟩] 37)
        have hz2 : w.heap.size + 2 ≤ W.heap.size := by have := hrW.lt; omega
        have hM2 := HMk.out.below hal
        have HEq := Lib.hid hEq
        have HB2 := Lib.hid hB2
        have HBk2 := Lib.hid hBk2
        have Hd2 := Lib.hid hd2
        have Hr2 := Lib.hid hr2
        have HM2 := Lib.hid hM2
        have HE := Lib.hid hE
        have Hm := Lib.hid hm
        clear hEq hB2 hBk2 hd2 hr2 hM2 hE hm hx hp' hN hQs hal hrW hBw
        generalize eqE x = oe at *
        cases oe with
        | some kd =>
          have hDE3 := HEq.out
          simp only [erO] at hDE3
          have HDE3 := Lib.hid hDE3
          clear hDE3
          go_wp2_with fail
          refine HDE3.out.mono ?_
          rintro e w6 ⟨rfl, hB6⟩
          have hd7 := Hd2.out.below hB6 Hd2.out.lt
          have i0 := hd7.cell 0
          have hr8 := (Hr2.out.below hB6 Hr2.out.lt).alloc (.cells #[.int .i64 x.pos, .iface 188 (.pointer (some (er kd)))] 64)
          have r8 := hr8.cell 0
          have f8 := hr8.free 0
          have ha8 : Blk (w6.alloc (.cells #[.int .i64 x.pos, .iface 188 (.pointer (some (er kd)))] 64)) w6.heap.size 64 #[.int .i64 x.pos, .iface 188 (.pointer (some (er kd)))] := heap_alloc_new w6 _
          have hz8 : w.heap.size + 1 < w6.heap.size := by have := hB6.size; simp at this; omega
          have hB8 := HB2.out.trans (hB6.mono HB2.out.size)
          have HR : Hid (RetVa w er (validE ⟨name, iA, ic, ins, oA, oc, outs, lA, lc, locs, some ⟨bq, o, none⟩, qc, eqs⟩) (.returned (.iface 62 (.pointer (some ⟨w6.heap.size, 0, none⟩)))) ((w6.alloc (.cells #[.int .i64 x.pos, .iface 188 (.pointer (some (er kd)))] 64)).setCell ⟨w.heap.size + 1, 0, none⟩ (.iface 62 (.pointer (some ⟨w6.heap.size, 0, none⟩))))) := Lib.hid (by
            rw [hO.out, HEk.out, HE.out]
            exact ⟨(hB8.alloc (by omega) _).setCell (by show w.heap.size ≤ w.heap.size + 1; omega) _, w6.heap.size, by omega, rfl, ha8.far (p := ⟨w.heap.size + 1, 0, none⟩) (by simp; omega) _⟩)
          have HS := Lib.hid (hr8.set 0 (.iface 62 (.pointer (some ⟨w6.heap.size, 0, none⟩))))
          have HMf := Lib.hid (((HM2.out.below hB6).below ((Below.refl w6.heap.size w6).alloc (Nat.le_refl _) (.cells #[.int .i64 x.pos, .iface 188 (.pointer (some (er kd)))] 64))).setCell (p := ⟨w.heap.size + 1, 0, none⟩) (by show w.heap.size + 1 < w.heap.size + 2; omega) (.iface 62 (.pointer (some ⟨w6.heap.size, 0, none⟩))))
          clear hB6 hd7 hr8 ha8 hz8 hB8
          go_wp2
          exact valid_leave rfl HMf.out HS.out HR.out
        | none =>
          have hDE3 := HEq.out
          simp only [erO] at hDE3
          have HDE3 := Lib.hid hDE3
          clear hDE3
          go_wp2_with fail
          refine HDE3.out.mono ?_
          rintro e w6 ⟨rfl, hB6⟩
          have hd7 := Hd2.out.below hB6 Hd2.out.lt
          have i0 := hd7.cell 0
          have i1 := hd7.cell 1
          have i2 := hd7.cell 2
          have i3 := hd7.cell 3
          have i4 := hd7.cell 4
          have i5 := hd7.cell 5
          have i6 := hd7.cell 6
          have i7 := hd7.cell 7
          have i8 := hd7.cell 8
          have i9 := hd7.cell 9
          have hB8 := HB2.out.trans (hB6.mono HB2.out.size)
          have HB8 := Lib.hid hB8
          have HBk8 := Lib.hid (HBk2.out.trans (hB6.mono HBk2.out.size))
          have Hr8 := Lib.hid (Hr2.out.below hB6 Hr2.out.lt)
          have HM8 := Lib.hid (HM2.out.below hB6)
          have hz8 : w.heap.size + 2 ≤ w6.heap.size := by have := hB6.size; simp at this; omega
          have hXp := expressions_any x (· < w.heap.size) w6 ((HX0.out _ hB8).e x Hm.out).ly (fun b hb => by show b < w6.heap.size; omega) (HF.out x Hm.out).2.2.2
          unfold Qx.val at hXp
          have HXp := Lib.hid hXp
          clear hB6 hd7 hB8 hXp c0 c1 c2 c3 c4 c5 c6 c7 c8 c9 HEq HDE3
          go_wp2_with fail
          refine HXp.out.mono ?_
          rintro e w7 ⟨A7, c7, rfl, hx7, hB7⟩
          go_wp2_with fail
          refine (inplace_mk _ _ _ _).mono ?_
          rintro e w8 ⟨rfl, rfl⟩
          obtain ⟨W4, hW4⟩ : ∃ W4, W4 = w7.alloc (.cells #[.slice A7 x.exprs.length c7] 32) := ⟨_, rfl⟩
          have hB74 : Below w7.heap.size w7 W4 := by rw [hW4]; exact (Below.refl _ _).alloc (Nat.le_refl _) _
          have hb4 : Blk W4 w7.heap.size 32 #[.slice A7 x.exprs.length c7] := by rw [hW4]; exact heap_alloc_new w7 _
          have hz4 : W4.heap.size = w7.heap.size + 1 := by rw [hW4]; simp
          rw [← hW4]
          clear hW4
          have hz7 : w6.heap.size ≤ w7.heap.size := hB7.size
          have hB64 : Below w6.heap.size w6 W4 := hB7.trans (hB74.mono hz7)
          have hB4 : Below w.heap.size w W4 := HB8.out.trans (hB64.mono (by omega))
          have hBk4 : Below wr.heap.size wr W4 := HBk8.out.trans (hB64.mono HBk8.out.size)
          have hr4 := Hr8.out.below hB64 Hr8.out.lt
          have hM4 := HM8.out.below hB64
          have hx4 : Xs W4 (fun b => b < w.heap.size ∨ w6.heap.size ≤ b ∧ b < w7.heap.size) A7 c7 x.exprs := hx7.keep (fun _ h => h) fun p hp => hB74.cell (by rcases hp with h | h <;> omega)
          have hfx := HF.out x Hm.out
          have HI := Lib.hid (inplace_el (4 - 1) w7.heap.size (fun b => b < w.heap.size ∨ w6.heap.size ≤ b ∧ b < w7.heap.size) (fun b => b = w.heap.size + 1) A7 c7 d x.exprs W4 hfx.1 hfx.2.1 hfx.2.2.1 hx4 (fun b hb => by rcases hb with h | h <;> omega) (fun b hb h => by rcases hb with h | h <;> omega) (fun b hb => by omega) (by omega) (hb4.cell 0))
          have HT4 := Lib.hid (HTk.out.below hBk4)
          have HB4 := Lib.hid hB4
          have HBk4 := Lib.hid hBk4
          have Hr4 := Lib.hid hr4
          have HM4 := Lib.hid hM4
          have hz9 : w.heap.size + 2 ≤ W4.heap.size := by omega
          have hKs : ∀ b, (b < w.heap.size ∨ w6.heap.size ≤ b ∧ b < w7.heap.size) → b ≠ w.heap.size + 1 := fun b hb h => by rcases hb with h' | h' <;> omega
          clear hB7 hx7 hB74 hb4 hB64 hB4 hBk4 hr4 hM4 hx4 hfx HXp i0 i1 i2 i3 i4 i5 i6 i7 i8 i9 r0 f0
          go_wp2_with fail
          refine (wpIn_wide (n := 4)).1 ?_
          refine range_ow rfl (by omega) (gf := 84) (lb := #[.pointer (some ⟨w7.heap.size, 0, none⟩)]) rfl trivial (enters_of Tryd.func84 (by kernel_rfl) rfl) HI.out KpC.trans
            (fun W l o o' hl ho hc _ => KpC.putObj W l o o' ho hc) (Below.refl _ _) (fun x => rfl)
            (VrI W4) (VrX w W4 er) (VrI.own W4) (VrX.own hz9) ⟨Below.refl _ _, fun e he => by simp at he⟩
            (fun y a W' => y.l.length ≤ 9223372036854775807 ∧ ∃ b : Nat, W4.heap.size ≤ b ∧ Blk W' b 34 #[.int .i64 y.op, .int .i64 y.pos, .int .i64 y.n, .string ⟨y.name.toArray⟩, .slice y.A y.l.length y.c] ∧ a = { tmps := (t0 :: t1 :: (.pointer (some ⟨w.heap.size + 1, 0, none⟩)) :: t3 :: t4 :: t5 :: t6 :: t7 :: (.pointer (some ⟨W.heap.size, 0, none⟩)) :: (.nilIface) :: (.pointer (some ⟨b, 0, none⟩)) :: t11 :: t12 :: t13 :: t14 :: t15 :: t16 :: t17 :: t18 :: t19 :: t20 :: t21 :: t22 :: t23 :: t24 :: t25 :: t26 :: t27 :: t28 :: t29 :: t30 :: t31 :: t32 :: t33 :: t34 :: t35 :: t36 :: t37 :: t38 :: t39 :: t40 :: t41 :: t42 :: t43 :: t44 :: t45 :: t46 :: t47 :: t48 :: t49 :: t50 :: t51 :: t52 :: t53 :: t54 :: (.slice (some ⟨bq, o, none⟩) lq qc) :: (.int .i64 (lq : Int)) :: (.int .i64 (k2 : Int)) :: (.bool true) :: (.pointer (some ⟨bq, o + k2 * 10, none⟩)) :: (.agg #[.int .i64 x.pos, .slice x.lA x.left.length x.lc, .int .i64 x.e.op, .int .i64 x.e.pos, .int .i64 x.e.n, .string ⟨x.e.name.toArray⟩, .slice x.e.A x.e.l.length x.e.c, .string ⟨x.node.toArray⟩, .slice x.A x.l.length x.c, .string ⟨x.every.toArray⟩]) :: (.agg #[.int .i64 x.pos, .slice x.lA x.left.length x.lc, .int .i64 x.e.op, .int .i64 x.e.pos, .int .i64 x.e.n, .string ⟨x.e.name.toArray⟩, .slice x.e.A x.e.l.length x.e.c, .string ⟨x.node.toArray⟩, .slice x.A x.l.length x.c, .string ⟨x.every.toArray⟩]) :: (.nilIface) :: (.nilIface) :: (.bool false) :: t65 :: t66 :: t67 :: t68 :: t69 :: t70 :: (.agg #[.int .i64 x.pos, .slice x.lA x.left.length x.lc, .int .i64 x.e.op, .int .i64 x.e.pos, .int .i64 x.e.n, .string ⟨x.e.name.toArray⟩, .slice x.e.A x.e.l.length x.e.c, .string ⟨x.node.toArray⟩, .slice x.A x.l.length x.c, .string ⟨x.every.toArray⟩]) :: (.slice A7 x.exprs.length c7) :: (.func (.func 84) #[] #[.pointer (some ⟨w7.heap.size, 0, none⟩)]) :: (.agg #[.int .i64 y.op, .int .i64 y.pos, .int .i64 y.n, .string ⟨y.name.toArray⟩, .slice y.A y.l.length y.c]) :: t75 :: t76 :: t77 :: t78 :: t79 :: t80 :: t81 :: t82 :: t83 :: t84 :: t85 :: ([] : List Value)).toArray, defers := [] })
            (fun y a' _ A B row hs hg hr => by
              obtain ⟨h1, b, h2, h3, h4⟩ := hs
              exact ⟨h1, b, h2, blk_ow h3 hg hr, h4⟩)
            ?assign ?body ?done ?stop
          case assign =>
            rintro lp2 pre y W' K' hC' ⟨hel, hmem⟩ hK'
            have hn : W4.heap.size ≤ W'.heap.size := hC'.1.size
            have hal : ∀ o, Below W'.heap.size W' (W'.alloc o) := fun o => (Below.refl _ _).alloc (Nat.le_refl _) _
            have HIn := Lib.hid (fun o => (VrI.own W4).alloc o hC')
            have hly : y.l.length ≤ 9223372036854775807 := by
              have h1 := hel.xs.hd.le
              have h2 := hel.xs.hd.big
              simp only [maxLen] at h2
              omega
            clear hel hC' hmem
            dsimp only [Ex.val]
            gi_wp2
            exact hK' _ _ (KeepsFrom.of_grownBy (World.grownBy_alloc W' _ none) (fun r e => by cases e)) (KpC.of_below (hal _)) (HIn.out _) ⟨hly, W'.heap.size, hn, heap_alloc_new W' _, rfl⟩
          case body =>
            rintro lp2 pre y a' W' hlp hrec ⟨hBI, hpre⟩ ⟨hly, b2, hb2, hbx, rfl⟩ hlen
            have hPE := partError_any y W' er (HT4.out.below hBI) hly
            unfold Ex.val at hPE
            have hrX := Hr4.out.below hBI Hr4.out.lt
            have HBI := Lib.hid hBI
            have Hpre := Lib.hid hpre
            have Hbx := Lib.hid hbx
            have HrX := Lib.hid hrX
            have hb2s : b2 < W'.heap.size := hbx.lt
            obtain ⟨⟨b0, b1, b2', b3, b4⟩, -⟩ := blkx hbx
            obtain ⟨oe, hoe⟩ : ∃ oe, oe = partE y := ⟨_, rfl⟩
            rw [← hoe] at hPE
            have Hoe := Lib.hid hoe
            have HPE := Lib.hid hPE
            clear hBI hpre hbx hrX hoe hPE hly hlen hrec
            cases oe with
            | none =>
              have hD3 := HPE.out
              simp only [erO] at hD3
              have HD3 := Lib.hid hD3
              clear hD3
              gi_wp2_with fail
              refine ⟨trivial, callsIn_wide.2 (HD3.out.mono ?_)⟩
              rintro e W3 ⟨rfl, hB3⟩
              have HKf := Lib.hid (kf_below (B := W4.heap.size) hB3)
              have HKc := Lib.hid (KpC.of_below (C := fun b => b = w.heap.size + 1) hB3)
              have HVI : Hid (VrI W4 (pre ++ [y]) W3) := Lib.hid ⟨HBI.out.trans (hB3.mono HBI.out.size), fun e he => by
                rcases List.mem_append.1 he with h | h
                · exact Hpre.out e h
                · rw [List.mem_singleton.1 h]; exact Hoe.out.symm⟩
              clear hB3
              gi_wp2
              exact ⟨HKf.out, HKc.out, HVI.out⟩
            | some kd =>
              have hD3 := HPE.out
              simp only [erO] at hD3
              have HD3 := Lib.hid hD3
              clear hD3
              gi_wp2_with fail
              refine ⟨trivial, callsIn_wide.2 (HD3.out.mono ?_)⟩
              rintro e W3 ⟨rfl, hB3⟩
              have hd7 := Hbx.out.below hB3 Hbx.out.lt
              have i1 := hd7.cell 1
              have hr8 := (HrX.out.below hB3 HrX.out.lt).alloc (.cells #[.int .i64 y.pos, .iface 188 (.pointer (some (er kd)))] 64)
              have r8 := hr8.cell 0
              have f8 := hr8.free 0
              have ha8 : Blk (W3.alloc (.cells #[.int .i64 y.pos, .iface 188 (.pointer (some (er kd)))] 64)) W3.heap.size 64 #[.int .i64 y.pos, .iface 188 (.pointer (some (er kd)))] := heap_alloc_new W3 _
              have hB4X := HBI.out.trans (hB3.mono HBI.out.size)
              have hzX := hB4X.size
              have hBaX : Below W3.heap.size W3 (W3.alloc (.cells #[.int .i64 y.pos, .iface 188 (.pointer (some (er kd)))] 64)) := (Below.refl _ _).alloc (Nat.le_refl _) _
              have hB4Y : Below W4.heap.size W4 (W3.alloc (.cells #[.int .i64 y.pos, .iface 188 (.pointer (some (er kd)))] 64)) := hB4X.trans (hBaX.mono hzX)
              have HKf := Lib.hid (((kf_below (B := W4.heap.size) hB3).trans (kf_below (B := W4.heap.size) hBaX)).trans (((KeepsOthers.setCell (W3.alloc (.cells #[.int .i64 y.pos, .iface 188 (.pointer (some (er kd)))] 64)) ⟨w.heap.size + 1, 0, none⟩ (.iface 62 (.pointer (some ⟨W3.heap.size, 0, none⟩)))).from W4.heap.size)))
              have HVX : Hid (VrX w W4 er .ret (pre ++ [y]) ((W3.alloc (.cells #[.int .i64 y.pos, .iface 188 (.pointer (some (er kd)))] 64)).setCell ⟨w.heap.size + 1, 0, none⟩ (.iface 62 (.pointer (some ⟨W3.heap.size, 0, none⟩))))) := Lib.hid ⟨rfl, y.pos, kd, W3.heap.size, ⟨pre, y, rfl, Hpre.out, Hoe.out.symm, rfl⟩, hzX, ha8.far (p := ⟨w.heap.size + 1, 0, none⟩) (by simp; omega) _, hr8.set 0 (.iface 62 (.pointer (some ⟨W3.heap.size, 0, none⟩))),
                (HB4.out.trans (hB4Y.mono (by omega))).setCell (by show w.heap.size ≤ w.heap.size + 1; omega) _, Nat.le_trans hB4Y.size (Nat.le_of_eq (World.size_setCell _ _ _).symm),
                fun D hl hD => (Below.heap_setCell _ _ _ _ (by show D ≠ w.heap.size + 1; omega)).trans (hB4Y.block D hD)⟩
              clear hB3 hd7 hr8 ha8 hB4X hBaX hB4Y
              gi_wp2
              exact ⟨HKf.out, HVX.out⟩
          case done =>
            rintro D xs W3 hD rfl ⟨hBI, hpre⟩ hK
            have HEs : Hid (eqsE eqs = eqsE (eqs.drop (k2 + 1))) := Lib.hid (by rw [HEk.out, HE.out, partsE_none hpre])
            have HBf : Hid (Below wr.heap.size wr W3) := Lib.hid (HBk4.out.trans (hBI.mono HBk4.out.size))
            have HMf : Hid (Marks W3 (w.heap.size + 2) ({ target := .collected D, args := #[] } :: ds)) := Lib.hid ((HM4.out.below hBI).more (by omega) hK (fun d' hd' E hE' hED => by
              obtain ⟨D', e1, -, hD'⟩ := HM4.out.at_ d' hd'
              rw [e1] at hE'
              injection hE' with h1 h2
              injection h1 with h3
              have := (Array.getElem?_eq_some_iff.1 hD').1
              omega))
            clear hBI hpre hK
            go_wp2
            have hk1 : ((k2 : Int) + 1) = ((k2 + 1 : Nat) : Int) := by omega
            first
              | rw [hk1]
              | skip
            refine ⟨⟨k2 + 1, _, _, _, _, _, _, _, _, _, _, _, _, _, _, _, _, _, _, _, _, _, _, _, _, _, _, _, _, _, _, _, _, _, _, _, _, _, _, _, _, _, _, _, _, _, _, _, _, _, _, _, _, _, _, _, _, _, _, _, _, _, _, _, _, _, _, _, _, _, _, _, _, _, _, _, _, _, _, _, _, _, _, _, rfl, by omega, HBf, HMf, HEs⟩, ?_⟩
            simp [RowKit.intOf, Array.getD]
            omega
          case stop =>
            rintro D cx xs W3 hD hxs ⟨rfl, p, kd, b3, ⟨pre, y, rfl, h1, h2, rfl⟩, h4, h5, h6, h7, h8, h9⟩ hK
            have hhit := partsE_hit hxs h1 h2
            have hMf : Marks W3 (w.heap.size + 2) ({ target := .collected D, args := #[] } :: ds) := by
              refine Marks.more ⟨fun d' hd' => ?_, HM4.out.one⟩ (by omega) hK (fun d' hd' E hE' hED => ?_)
              · obtain ⟨D', e1, hl', hD'⟩ := HM4.out.at_ d' hd'
                exact ⟨D', e1, hl', (h9 D' hl' (Array.getElem?_eq_some_iff.1 hD').1).trans hD'⟩
              · obtain ⟨D', e1, -, hD'⟩ := HM4.out.at_ d' hd'
                rw [e1] at hE'
                injection hE' with h1 h2
                injection h1 with h3
                have := (Array.getElem?_eq_some_iff.1 hD').1
                omega
            refine wpIn_ret ?_
            refine valid_leave rfl hMf h6 ?_
            rw [hO.out, HEk.out, HE.out, hhit]
            exact ⟨h7, b3, by omega, rfl, h5⟩
      · have hpI : ¬ (k2 : Int) < lq := by omega
        have HR : Hid (RetVa w er (validE ⟨name, iA, ic, ins, oA, oc, outs, lA, lc, locs, qA, qc, eqs⟩) (.returned .nilIface) (W.setCell ⟨w.heap.size + 1, 0, none⟩ .nilIface)) := Lib.hid (by
          rw [hO.out, HEk.out, List.drop_eq_nil_of_le (by have := HLQ.out; omega)]
          exact ⟨hBw.setCell (by show w.heap.size ≤ w.heap.size + 1; omega) _, rfl⟩)
        have HS := Lib.hid (hrW.set 0 .nilIface)
        have HMf := Lib.hid (HMk.out.setCell (p := ⟨w.heap.size + 1, 0, none⟩) (by show w.heap.size + 1 < w.heap.size + 2; omega) .nilIface)
        clear hrW hBw
        go_wp2
        exact valid_leave rfl HMf.out HS.out HR.out
end Go.Proofs.YtacmibkcnmaagaaDoor
