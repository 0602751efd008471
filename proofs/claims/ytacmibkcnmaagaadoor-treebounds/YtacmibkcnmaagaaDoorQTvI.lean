/-
  The walk of tree's tooMany. Conditions: the theorem's own premises.
-/
import Derived.Test.YtacmibkcnmaagaaDoorQTvD
import Derived.Test.YtacmibkcnmaagaaDoorQTrM
namespace Go.Proofs.YtacmibkcnmaagaaDoor
open Go.RowKit Go.Lib Go.Sort Go.Shelf
attribute [local go_sem] Oper.semAt_some

/-- A range whose body reads no element. -/
theorem range_skip2 {F : Fence} {n : Nat} {P : Program} {α : Type} {g : Operand} {ps : Array Tmp} {body : Code} {Q : Exit → Act → World → Prop} {a : Act} {w : World}
    (hro : F.round = none) (h1 : 1 ≤ n) {gf : Nat} {lb : Array Value} (hg : a.eval g = .func (.func gf) #[] lb) (hFg : F.fn gf) (eg : ∀ args w, (callFunc gf args).run P w = .ok (.enter gf args) w)
    {encs : α → Array Value} {Kp : World → World → Prop} {El : α → World → Prop} {S Sp : List α → Prop} {N : Nat} {w0 : World} (hseq : SeqOw F (n - 1) P gf lb encs Kp El S Sp N w0)
    (hKt : ∀ {A B C : World}, Kp A B → Kp B C → Kp A C) (hKr : ∀ W : World, Kp W W) (hKb : ∀ (W : World) (l : Nat) (o o' : Obj), w.heap.size ≤ l → W.heap[l]? = some o → o.isCells = false → o.isWalk = false → Kp W (W.putObj l o')) (hb0 : Below w0.heap.size w0 w) (hps : ∀ x, (encs x).size = ps.size)
    (I : List α → World → Prop) (Ix : Code → List α → World → Prop) (hI : OwnFrom w.heap.size I) (hIx : ∀ c, OwnFrom w.heap.size (Ix c)) (h0 : I [] w)
    (hbody : ∀ (l : Nat) (pre : List α) (x : α) (W : World), w.heap.size ≤ l → I pre W → pre.length < N → body.wpIn (F.inRound l) (n - 1 - 1) P (ownPostG w.heap.size Kp I Ix (pre ++ [x]) W) { tmps := (ps.zip (encs x)).foldl (fun t (p, v) => t.setIfInBounds p v) a.tmps, defers := [] } W)
    (hdone : ∀ (D : Nat) (xs : List α) (W : World), w.heap.size ≤ D → S xs → I xs W → W.heap[D]? = some (.deferred (some [])) → Q .normal { a with defers := { target := .collected D, args := #[] } :: a.defers } W)
    (hstop : ∀ (D : Nat) (c : Code) (pre : List α) (W : World), w.heap.size ≤ D → Sp pre → Ix c pre W → W.heap[D]? = some (.deferred (some [])) → c.wpIn F n P Q { a with defers := { target := .collected D, args := #[] } :: a.defers } W) :
    (Code.rangeFunc g ps .skip body).wpIn F n P Q a w :=
  range_ow hro h1 hg hFg eg hseq hKt hKb hb0 hps I Ix hI hIx h0 (fun x a' _ => a' = { tmps := (ps.zip (encs x)).foldl (fun t (p, v) => t.setIfInBounds p v) a.tmps, defers := [] }) (fun _ _ _ _ _ _ hs _ _ => hs)
    (fun l pre x W K hi _ hK => by gi_wp2; exact hK _ _ (KeepsFrom.refl _ _) (hKr _) hi (by have := hps x; simp [this])) (fun l pre x a' W hl _ hi ha hlen => by subst ha; exact hbody l pre x W hl hi hlen) hdone hstop
/-- Too many. -/
def manyB (n : Ng) : Bool := decide (32 < n.ins.length + n.outs.length + n.locs.length) || (n.outs.length == 0 || (n.eqs.length == 0 || decide (256 < cntL (allX n.eqs))))
/-- Where the count stands. -/
def TmI (w : World) (br bc n : Nat) (pre : List Ex) (W : World) : Prop := Below w.heap.size w W ∧ Blk W br 4 #[.bool false] ∧ Blk W bc 3 #[.int .i64 (pre.length : Int)] ∧ n ≤ W.heap.size ∧ pre.length ≤ 256
/-- .. and where it is left. -/
def TmX (w : World) (br n : Nat) (N : Nat) (c : Code) (_ : List Ex) (W : World) : Prop := Below w.heap.size w W ∧ Blk W br 4 #[.bool true] ∧ n ≤ W.heap.size ∧ 256 < N ∧ c = .ret

set_option maxRecDepth 100000 in
set_option maxHeartbeats 2000000 in
theorem tooMany_any (n : Ng) (d : Nat) (w : World) (hf : ∀ x ∈ n.eqs, x.fits d) (hl : n.eqs.length ≤ 100000) (hx : n.Lies w (· < w.heap.size)) (hz : n.ins.length ≤ 1000000 ∧ n.outs.length ≤ 1000000 ∧ n.locs.length ≤ 1000000) :
    Calls Tryd.prog 31 #[n.val] w fun e w' => e = .returned (.bool (manyB n)) ∧ Below w.heap.size w w' := by
  obtain ⟨name, iA, ic, ins, oA, oc, outs, lA, lc, locs, qA, qc, eqs⟩ := n
  have hM : manyB ⟨name, iA, ic, ins, oA, oc, outs, lA, lc, locs, qA, qc, eqs⟩ = (decide (32 < ins.length + outs.length + locs.length) || (outs.length == 0 || (eqs.length == 0 || decide (256 < cntL (allX eqs))))) := rfl
  unfold Ng.val
  dsimp only at hf hl hz ⊢
  have hQs : Qs w (· < w.heap.size) qA eqs := ⟨fun h => hx.q.hd.at_ h, hx.q.row, fun q hq => (hx.e q hq).ly⟩
  obtain ⟨a, ha⟩ : ∃ a, a = ins.length := ⟨_, rfl⟩
  obtain ⟨b, hb⟩ : ∃ b, b = outs.length := ⟨_, rfl⟩
  obtain ⟨c, hc⟩ : ∃ c, c = locs.length := ⟨_, rfl⟩
  obtain ⟨k, hk⟩ : ∃ k, k = eqs.length := ⟨_, rfl⟩
  rw [← ha, ← hb, ← hc, ← hk] at hM ⊢
  rw [← ha, ← hb, ← hc] at hz
  rw [← hk] at hl
  have HX := Lib.hid hQs
  have HF := Lib.hid hf
  have HK := Lib.hid hk
  clear hx hQs hf ha hb hc hk
  have hs3 : (a : Int) + b + c ≤ 3000000 := by omega
  have HB0 : Hid (Below w.heap.size w ((w.alloc (.cells #[.string ⟨name.toArray⟩, .slice iA a ic, .slice oA b oc, .slice lA c lc, .slice qA k qc] 30)).alloc (.cells #[.bool true] 4))) := Lib.hid (((Below.refl _ _).alloc (Nat.le_refl _) _).alloc (by simp) _)
  have early : manyB ⟨name, iA, ic, ins, oA, oc, outs, lA, lc, locs, qA, qc, eqs⟩ = true → (32 < a + b + c ∨ b = 0 ∨ k = 0) → Calls Tryd.prog 31 #[.agg #[.string ⟨name.toArray⟩, .slice iA a ic, .slice oA b oc, .slice lA c lc, .slice qA k qc]] w fun e w' => e = .returned (.bool (manyB ⟨name, iA, ic, ins, oA, oc, outs, lA, lc, locs, qA, qc, eqs⟩)) ∧ Below w.heap.size w w' := by
    intro hT hc
    have HTr := Lib.hid hT
    clear hT hM
    by_cases c1 : 32 < a + b + c
    · have q1 : (32 : Int) < (a : Int) + b + c := by omega
      clear c1 hc
      go_enter Tryd.func31, Tryd.ntmps31
      go_wp2
      exact bodyPost_ret (v := .bool true) (by simp [results, Tryd.results31, go_sem]) rfl ⟨by rw [HTr.out], HB0.out⟩
    · have q1 : ¬ (32 : Int) < (a : Int) + b + c := by omega
      by_cases c2 : b = 0
      · subst c2
        clear c1 hc
        go_enter Tryd.func31, Tryd.ntmps31
        go_wp2
        exact bodyPost_ret (v := .bool true) (by simp [results, Tryd.results31, go_sem]) rfl ⟨by rw [HTr.out], HB0.out⟩
      · have q2 : ((b : Int) == 0) = false := beq_eq_false_iff_ne.2 (by omega)
        obtain rfl : k = 0 := hc.elim (fun h => absurd h c1) fun h => h.elim (fun h => absurd h c2) id
        clear c1 c2 hc
        go_enter Tryd.func31, Tryd.ntmps31
        go_wp2
        exact bodyPost_ret (v := .bool true) (by simp [results, Tryd.results31, go_sem]) rfl ⟨by rw [HTr.out], HB0.out⟩
  by_cases c1 : 32 < a + b + c
  · exact early (by rw [hM, decide_eq_true c1]; rfl) (.inl c1)
  by_cases c2 : b = 0
  · exact early (by rw [hM, c2]; simp) (.inr (.inl c2))
  by_cases c3 : k = 0
  · exact early (by rw [hM, c3]; simp) (.inr (.inr c3))
  have hM2 : manyB ⟨name, iA, ic, ins, oA, oc, outs, lA, lc, locs, qA, qc, eqs⟩ = decide (256 < cntL (allX eqs)) := by rw [hM, decide_eq_false c1, beq_eq_false_iff_ne.2 c2, beq_eq_false_iff_ne.2 c3]; rfl
  have q1 : ¬ (32 : Int) < (a : Int) + b + c := by omega
  have q2 : ((b : Int) == 0) = false := beq_eq_false_iff_ne.2 (by omega)
  have q3 : ((k : Int) == 0) = false := beq_eq_false_iff_ne.2 (by omega)
  have HM := Lib.hid hM2
  clear hM hM2 c1 c2 c3 early HB0
  refine (callsIn_wide (n := 4)).1 ?_
  refine callsIn_of_wp_marks Tryd.func31 rfl trivial ?_ rfl
  simp only [Tryd.ntmps31, List.size_toArray, List.length_cons, List.length_nil, Nat.reduceAdd, Nat.reduceSub, Array.replicate_succ, Array.replicate_zero, List.push_toArray, List.append_toArray, List.nil_append, List.cons_append]
  refine wpIn_wide.2 ?_
  go_wp2_with fail
  refine (counted_mk _ _ _ _ _ _ ⟨_, _, _, rfl⟩ ⟨_, _, _, rfl⟩ ⟨_, _, _, rfl⟩ ⟨_, _, _, rfl⟩).mono ?_
  rintro e w2 ⟨rfl, rfl⟩
  simp only [World.size_alloc]
  obtain ⟨W2, hW2⟩ : ∃ W2, W2 = ((((w.alloc (.cells #[.string ⟨name.toArray⟩, .slice iA a ic, .slice oA b oc, .slice lA c lc, .slice qA k qc] 30)).alloc (.cells #[.bool false] 4)).alloc (.cells #[.int .i64 0] 3)).alloc (.cells #[.string ⟨name.toArray⟩, .slice iA a ic, .slice oA b oc, .slice lA c lc, .slice qA k qc] 30)) := ⟨_, rfl⟩
  have hB2 : Below w.heap.size w W2 := by rw [hW2]; exact ((((Below.refl _ _).alloc (Nat.le_refl _) _).alloc (by simp) _).alloc (by simp; omega) _).alloc (by simp; omega) _
  have hbn : Blk W2 (w.heap.size + 1 + 1 + 1) 30 #[.string ⟨name.toArray⟩, .slice iA a ic, .slice oA b oc, .slice lA c lc, .slice qA k qc] := by rw [hW2]; exact blk_new (by simp)
  have hbc : Blk W2 (w.heap.size + 1 + 1) 3 #[.int .i64 0] := by rw [hW2]; exact (blk_new (by simp)).alloc _
  have hbr : Blk W2 (w.heap.size + 1) 4 #[.bool false] := by rw [hW2]; exact ((blk_new (by simp)).alloc _).alloc _
  have hz2 : W2.heap.size = w.heap.size + 1 + 1 + 1 + 1 := by rw [hW2]; simp
  rw [← hW2]
  clear hW2
  have HI := Lib.hid (counted_el (4 - 1) (w.heap.size + 1 + 1 + 1) (· < w.heap.size) (fun x => x = w.heap.size + 1 + 1 ∨ x = w.heap.size + 1) qA qc d eqs W2 HF.out (by rw [← HK.out]; exact hl) (HX.out.keepV (fun _ h => h) fun p v hp hv => (hB2.cell hp).trans hv) (fun b hb => by omega) (fun b hb h => by omega) (fun b hb => by omega) (by omega) (by rw [← HK.out]; exact hbn.cell 4))
  have HB2 := Lib.hid hB2
  have hI0 : TmI w (w.heap.size + 1) (w.heap.size + 1 + 1) W2.heap.size [] W2 := ⟨hB2, hbr, hbc, Nat.le_refl _, by simp⟩
  have hOI := Lib.hid (show OwnFrom W2.heap.size (TmI w (w.heap.size + 1) (w.heap.size + 1 + 1) W2.heap.size) from fun s A B row hs hg hr => ⟨hs.1.grown hg hs.1.size (fun k e => by have := (hr k e).1; omega), blk_ow hs.2.1 hg hr, blk_ow hs.2.2.1 hg hr, Nat.le_trans hs.2.2.2.1 hg.size, hs.2.2.2.2⟩)
  have hOX := Lib.hid (fun c => show OwnFrom W2.heap.size (TmX w (w.heap.size + 1) W2.heap.size (cntL (allX eqs)) c) from fun s A B row hs hg hr => ⟨hs.1.grown hg hs.1.size (fun k e => by have := (hr k e).1; omega), blk_ow hs.2.1 hg hr, Nat.le_trans hs.2.2.1 hg.size, hs.2.2.2⟩)
  clear hbn hB2 hbc hbr
  go_wp2_with fail
  refine (wpIn_wide (n := 4)).1 ?_
  refine range_skip2 rfl (by omega) (gf := 113) (lb := #[.pointer (some ⟨w.heap.size + 1 + 1 + 1, 0, none⟩)]) rfl trivial (enters_of Tryd.func113 (by kernel_rfl) rfl) HI.out KpC.trans (KpC.refl _)
    (fun W l o o' hl ho hc _ => KpC.putObj W l o o' ho hc) (Below.refl _ _) (fun x => rfl)
    (TmI w (w.heap.size + 1) (w.heap.size + 1 + 1) W2.heap.size) (TmX w (w.heap.size + 1) W2.heap.size (cntL (allX eqs))) hOI.out hOX.out hI0 ?body ?done ?stop
  case body =>
    rintro lp2 pre x W' hlp ⟨hbw, hbb, hbc, hn, hp⟩ hlen
    have k0 : W'.cell? ⟨w.heap.size + 1 + 1, 0, none⟩ = some (.int .i64 (pre.length : Int)) := hbc.cell 0
    have f0 : W'.frozen? ⟨w.heap.size + 1 + 1, 0, none⟩ = false := hbc.free 0
    have HS := Lib.hid (hbc.set 0 (.int .i64 ((pre ++ [x]).length : Int)))
    have HR := Lib.hid (hbb.far (p := ⟨w.heap.size + 1 + 1, 0, none⟩) (by simp) (.int .i64 ((pre ++ [x]).length : Int)))
    have HN : Hid ((pre.length : Int) + 1 = ((pre ++ [x]).length : Int)) := Lib.hid (by simp)
    have HBs := Lib.hid (hbw.setCell (p := ⟨w.heap.size + 1 + 1, 0, none⟩) (by show w.heap.size ≤ w.heap.size + 1 + 1; omega) (.int .i64 ((pre ++ [x]).length : Int)))
    have c1 : (W'.setCell ⟨w.heap.size + 1 + 1, 0, none⟩ (.int .i64 ((pre.length : Int) + 1))).cell? ⟨w.heap.size + 1 + 1, 0, none⟩ = some (.int .i64 ((pre.length : Int) + 1)) := (hbc.set 0 _).cell 0
    have c2 : (W'.setCell ⟨w.heap.size + 1 + 1, 0, none⟩ (.int .i64 ((pre.length : Int) + 1))).cell? ⟨w.heap.size + 1, 0, none⟩ = some (.bool false) := (hbb.far (p := ⟨w.heap.size + 1 + 1, 0, none⟩) (by simp) _).cell 0
    have g2 : (W'.setCell ⟨w.heap.size + 1 + 1, 0, none⟩ (.int .i64 ((pre.length : Int) + 1))).frozen? ⟨w.heap.size + 1, 0, none⟩ = false := (hbb.far (p := ⟨w.heap.size + 1 + 1, 0, none⟩) (by simp) _).free 0
    have Hbb := Lib.hid hbb
    have Hbc := Lib.hid hbc
    have Hbw := Lib.hid hbw
    clear hbc hbw hbb
    by_cases h256 : pre.length = 256
    · have qq : (256 : Int) < (pre.length : Int) + 1 := by omega
      have hbb7 := Hbb.out.far (p := ⟨w.heap.size + 1 + 1, 0, none⟩) (by simp) (.int .i64 257)
      have c1' : (W'.setCell ⟨w.heap.size + 1 + 1, 0, none⟩ (.int .i64 257)).cell? ⟨w.heap.size + 1 + 1, 0, none⟩ = some (.int .i64 257) := (Hbc.out.set 0 _).cell 0
      have c2' : (W'.setCell ⟨w.heap.size + 1 + 1, 0, none⟩ (.int .i64 257)).cell? ⟨w.heap.size + 1, 0, none⟩ = some (.bool false) := hbb7.cell 0
      have g2' : (W'.setCell ⟨w.heap.size + 1 + 1, 0, none⟩ (.int .i64 257)).frozen? ⟨w.heap.size + 1, 0, none⟩ = false := hbb7.free 0
      have HX7 : Hid (TmX w (w.heap.size + 1) W2.heap.size (cntL (allX eqs)) .ret (pre ++ [x]) ((W'.setCell ⟨w.heap.size + 1 + 1, 0, none⟩ (.int .i64 257)).setCell ⟨w.heap.size + 1, 0, none⟩ (.bool true))) := Lib.hid ⟨(Hbw.out.setCell (p := ⟨w.heap.size + 1 + 1, 0, none⟩) (by show w.heap.size ≤ w.heap.size + 1 + 1; omega) _).setCell (p := ⟨w.heap.size + 1, 0, none⟩) (by show w.heap.size ≤ w.heap.size + 1; omega) _, hbb7.set 0 (.bool true), by have := hn; simp; omega, by omega, rfl⟩
      clear hbb7 c1 c2 g2 HS HR HN HBs
      gi_wp2
      exact ⟨((KeepsOthers.setCell _ _ _).from _).trans ((KeepsOthers.setCell _ _ _).from _), HX7.out⟩
    · have qq : ¬ (256 : Int) < (pre.length : Int) + 1 := by omega
      gi_wp2
      rw [HN.out]
      refine ⟨(KeepsOthers.setCell _ _ _).from _, KpC.setCell _ _ _ (.inl rfl), HBs.out, HR.out, HS.out, by have := hn; simp; omega, by simp; omega⟩
  case done =>
    rintro D xs W3 hD rfl ⟨hbw, hbb, hbc, hn, hp⟩ hK
    have hlen : cntL (allX eqs) ≤ 256 := by
      have := hp
      rw [partsL_length] at this
      exact this
    have hI3 : TmI w (w.heap.size + 1) (w.heap.size + 1 + 1) W2.heap.size (partsL (allX eqs)) (W3.setCell ⟨w.heap.size + 1, 0, none⟩ (.bool false)) := ⟨hbw.setCell (p := ⟨w.heap.size + 1, 0, none⟩) (by show w.heap.size ≤ w.heap.size + 1; omega) _, hbb.set 0 (.bool false), hbc.far (p := ⟨w.heap.size + 1, 0, none⟩) (by simp) _, by have := hn; simp; omega, hp⟩
    have hK2 : (W3.setCell ⟨w.heap.size + 1, 0, none⟩ (.bool false)).heap[D]? = some (.deferred (some [])) := (Below.heap_setCell _ _ _ _ (by show D ≠ w.heap.size + 1; omega)).trans hK
    have hR : TmI w (w.heap.size + 1) (w.heap.size + 1 + 1) W2.heap.size (partsL (allX eqs)) ((W3.setCell ⟨w.heap.size + 1, 0, none⟩ (.bool false)).putObj D (.deferred none)) := OwnFrom.putObj (s := partsL (allX eqs)) hOI.out (.deferred none) hI3 hD hK2 rfl
    have HR := Lib.hid hR
    have k0 : W3.cell? ⟨w.heap.size + 1, 0, none⟩ = _ := hbb.cell 0
    have f0 : W3.frozen? ⟨w.heap.size + 1, 0, none⟩ = false := hbb.free 0
    have r0 := hR.2.1.cell 0
    have hMf : Hid (manyB ⟨name, iA, ic, ins, oA, oc, outs, lA, lc, locs, qA, qc, eqs⟩ = false) := Lib.hid (by rw [HM.out]; exact decide_eq_false (by omega))
    clear hbc hbw hbb hI3 hR
    go_wp2
    refine ⟨by simp, .inl ⟨_, _, rfl, run_takeDeferred hK2, ?_⟩⟩
    exact ⟨.bool false, by simp [results, Tryd.results31, go_sem, r0], by rw [hMf.out], HR.out.1⟩
  case stop =>
    rintro D c2 pre W3 hD hpre ⟨hbw, hbb, hn, hN, rfl⟩ hK
    have hR : TmX w (w.heap.size + 1) W2.heap.size (cntL (allX eqs)) .ret pre (W3.putObj D (.deferred none)) := OwnFrom.putObj (s := pre) (hOX.out .ret) (.deferred none) ⟨hbw, hbb, hn, hN, rfl⟩ hD hK rfl
    have HR := Lib.hid hR
    have r0 := hR.2.1.cell 0
    have hMf : Hid (manyB ⟨name, iA, ic, ins, oA, oc, outs, lA, lc, locs, qA, qc, eqs⟩ = true) := Lib.hid (by rw [HM.out]; exact decide_eq_true hN)
    clear hbw hbb hR
    refine wpIn_ret ?_
    refine ⟨by simp, .inl ⟨_, _, rfl, run_takeDeferred hK, ?_⟩⟩
    exact ⟨.bool true, by simp [results, Tryd.results31, go_sem, r0], by rw [hMf.out], HR.out.1⟩
end Go.Proofs.YtacmibkcnmaagaaDoor
