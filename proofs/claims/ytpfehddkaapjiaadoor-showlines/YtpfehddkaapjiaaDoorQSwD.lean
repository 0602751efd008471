/-
  The walks of the printer's expr and operands, and of show's Expr. Conditions: each theorem's own premises.
-/
import Derived.Test.YtpfehddkaapjiaaDoorQSwB
import Derived.Test.YtpfehddkaapjiaaDoorQSwF
import Derived.Test.YtpfehddkaapjiaaDoorQTrD
import Derived.Test.YtpfehddkaapjiaaDoorQSfi
namespace Go.Proofs.YtpfehddkaapjiaaDoor
open Go.RowKit Go.Lib Go.Shelf
attribute [local go_sem] Oper.semAt_some

mutual
/-- Its numbers are within range. -/
def Ex.rng : Ex → Bool | .mk _ _ n _ _ _ l => decide (-9223372036854775808 ≤ n) && decide (n ≤ 9223372036854775807) && rngL l
def rngL : List Ex → Bool | [] => true | e :: r => e.rng && rngL r
end
theorem rngL_iff : ∀ {l : List Ex}, rngL l = true ↔ ∀ e ∈ l, e.rng = true
  | [] => by simp [rngL]
  | e :: r => by
    have := rngL_iff (l := r)
    simp [rngL, this]
theorem Ex.rng_in {e : Ex} (h : e.rng = true) : -9223372036854775808 ≤ e.n ∧ e.n ≤ 9223372036854775807 ∧ ∀ x ∈ e.l, x.rng = true := by
  obtain ⟨op, pos, n, name, A, c, l⟩ := e
  simp only [Ex.rng, Bool.and_eq_true, decide_eq_true_eq] at h
  exact ⟨h.1.1, h.1.2, rngL_iff.1 h.2⟩
/-- The tables stand, in memory that only grows behind b. -/
def TbB (b : Nat) (w : World) : Prop := ∀ w2, Below b w w2 → Tab w2 ∧ Bef w2
theorem TbB.next {b : Nat} {w w2 : World} (h : TbB b w) (hB : Below b w w2) : TbB b w2 := fun w' h2 => h w' (hB.trans h2)
theorem TbB.here {b : Nat} {w : World} (h : TbB b w) : Tab w ∧ Bef w := h w (Below.refl _ _)
theorem TbB.of {w W : World} {b : Nat} (h1 : Tab w) (h2 : Bef w) (hB : Below w.heap.size w W) (hb : w.heap.size ≤ b) : TbB b W := fun _ h =>
  have hB2 := hB.trans (h.mono hb)
  ⟨h1.below hB2, h2.below hB2⟩
/-- What is told of an expression's printing. -/
def ExprOk (e : Ex) : Prop := ∀ (b : Nat) (acc : List UInt8) (w : World), PrA b acc w → e.Lies w (· < b) → TbB b w → e.rng = true → acc.length + e.shw.length ≤ 140737488355328 →
  Calls Tryd.prog 74 #[.pointer (some ⟨b, 0, none⟩), e.val] w fun r w2 => r = .returned (.tuple #[]) ∧ Wr b (acc ++ e.shw) w w2
theorem blkn {W : World} {b : Nat} {t : TypeId} {cs : Array Value} (h : W.heap.size = b) : Blk (W.alloc (.cells cs t)) b t cs := by subst h; exact heap_alloc_new W _
/-- The texts of the first operands. -/
theorem shwL_step (op : Int) (l : List Ex) (X Y : List UInt8) (j : Nat) (h : j < 3 ∧ 0 ≤ op ∧ op < 26) (hj : j < l.length) (hX : X ++ shwL op j (l.drop j) = Y) :
    X ++ (bef op j ++ (if op = 25 ∨ alone l[j].op = true then l[j].shw else brk l[j].shw)) ++ shwL op (j + 1) (l.drop (j + 1)) = Y := by
  rw [shwL_at op j l h hj] at hX
  rw [← hX]
  simp only [List.append_assoc]

set_option maxRecDepth 100000 in
set_option maxHeartbeats 1000000 in
theorem operands_any (e : Ex) (IH : ∀ x ∈ e.l, ExprOk x) (b : Nat) (acc : List UInt8) (w : World) (h : PrA b acc w) (hL : e.Lies w (· < b)) (hT : TbB b w) (hR : e.rng = true) (hlen : acc.length + (shwL e.op 0 e.l).length ≤ 140737488355328) :
    Calls Tryd.prog 114 #[.pointer (some ⟨b, 0, none⟩), e.val] w fun r w' => r = .returned (.tuple #[]) ∧ Wr b (acc ++ shwL e.op 0 e.l) w w' := by
  obtain ⟨W1, hW1⟩ : ∃ W1, W1 = w.alloc (.cells #[.int .i64 e.op, .int .i64 e.pos, .int .i64 e.n, .string ⟨e.name.toArray⟩, .slice e.A e.l.length e.c] 34) := ⟨_, rfl⟩
  have hWr1 : Wr b acc w W1 := by rw [hW1]; exact Wr.ofAlloc h _
  have hb1 : Blk W1 w.heap.size 34 #[.int .i64 e.op, .int .i64 e.pos, .int .i64 e.n, .string ⟨e.name.toArray⟩, .slice e.A e.l.length e.c] := by rw [hW1]; exact heap_alloc_new w _
  have hz1 : W1.heap.size = w.heap.size + 1 := by rw [hW1]; simp
  have hbw := h.lt
  obtain ⟨⟨k0, k1, k2, k3, k4⟩, -⟩ := blkx hb1
  by_cases ho : 0 ≤ e.op ∧ e.op < 26
  · obtain ⟨o, hoe⟩ : ∃ o : Nat, e.op = (o : Int) := ⟨e.op.toNat, by omega⟩
    have ho2 : o < 26 := by omega
    have HBf := Lib.hid ((hT.next hWr1.bel).here.2)
    obtain ⟨t0, ht0⟩ : ∃ t, t = bef (o : Int) 0 := ⟨_, rfl⟩
    obtain ⟨t1, ht1⟩ : ∃ t, t = bef (o : Int) 1 := ⟨_, rfl⟩
    obtain ⟨t2, ht2⟩ : ∃ t, t = bef (o : Int) 2 := ⟨_, rfl⟩
    have q0 : W1.cell? ⟨4, o * 3, none⟩ = some (.string ⟨t0.toArray⟩) := by rw [ht0]; exact HBf.out.cell o 0 ho2 (by omega)
    have q1 : W1.cell? ⟨4, o * 3 + 1, none⟩ = some (.string ⟨t1.toArray⟩) := by rw [ht1]; exact HBf.out.cell o 1 ho2 (by omega)
    have q2 : W1.cell? ⟨4, o * 3 + 2, none⟩ = some (.string ⟨t2.toArray⟩) := by rw [ht2]; exact HBf.out.cell o 2 ho2 (by omega)
    have HT0 := Lib.hid ht0
    have HT1 := Lib.hid ht1
    have HT2 := Lib.hid ht2
    clear ht0 ht1 ht2
    obtain ⟨len, hln⟩ : ∃ len, len = e.l.length := ⟨_, rfl⟩
    have HLn := Lib.hid hln
    obtain ⟨m, hm⟩ : ∃ m, m = min len 3 := ⟨_, rfl⟩
    have HX := Lib.hid hL.xs
    have HIH := Lib.hid IH
    have HR := Lib.hid (Ex.rng_in hR).2.2
    have HTb := Lib.hid (hT.next hWr1.bel)
    have HLe := Lib.hid hlen
    have HW1 := Lib.hid hWr1
    rw [hoe] at k0 hW1 hb1 HLe ⊢
    have Hb1 := Lib.hid hb1
    have hcap : len ≤ e.c := by rw [hln]; exact HX.out.hd.le
    have hmx : e.c ≤ 9223372036854775807 := by have := HX.out.hd.big; simpa [maxLen] using this
    unfold Ex.val
    rw [hoe, ← hln]
    rw [← hln] at hW1 k4
    obtain ⟨A, hAe⟩ : ∃ A, A = e.A := ⟨_, rfl⟩
    rw [← hAe] at HX Hb1 hb1 k4 hW1 ⊢
    clear IH hL hT hR hlen h hWr1 hb1 HBf hln hAe
    subst hW1
    go_enter Tryd.func114, Tryd.ntmps114
    go_wp2_with fail
    obtain ⟨W2, hW2⟩ : ∃ W2, W2 = ((w.alloc (.cells #[.int .i64 (o : Int), .int .i64 e.pos, .int .i64 e.n, .string ⟨e.name.toArray⟩, .slice A len e.c] 34)).alloc (.cells #[.string ⟨t0.toArray⟩, .string ⟨t1.toArray⟩, .string ⟨t2.toArray⟩] 168)) := ⟨_, rfl⟩
    have hWr2 : Wr b acc w W2 := by rw [hW2]; exact HW1.out.trans (Wr.ofAlloc HW1.out.pr _)
    have Hb2 : Hid (Blk W2 w.heap.size 34 _) := Lib.hid (by rw [hW2]; exact Hb1.out.alloc _)
    have Ht2 : Hid (Blk W2 (w.heap.size + 1) 168 #[.string ⟨t0.toArray⟩, .string ⟨t1.toArray⟩, .string ⟨t2.toArray⟩]) := Lib.hid (by rw [hW2]; exact blkn (by simp))
    have HTb2 : Hid (TbB b W2) := Lib.hid (by rw [hW2]; exact HTb.out.next (Wr.ofAlloc HW1.out.pr _).bel)
    rw [← hW2]
    have HWr2 := Lib.hid hWr2
    clear hW2 hWr2 k0 k1 k2 k3 k4 q0 q1 q2 Hb1 HTb HW1 hz1
    rw [show min (len : Int) 3 = (m : Int) by omega, show max (m : Int) 0 = m by omega, Int.toNat_natCast]
    have hm1 : m ≤ len ∧ m ≤ 3 ∧ (len ≤ m ∨ 3 ≤ m) := by omega
    clear hm
    go_loopw [27] (fun i wr => ∃ (j : Nat) (X : List UInt8), j ≤ m ∧ i = .int .i64 (j : Int) ∧ X ++ shwL (o : Int) j (e.l.drop j) = shwL (o : Int) 0 e.l ∧ Wr b (acc ++ X) W2 wr) (fun i _ => m - (RowKit.intOf i).toNat)
    case atStart => exact ⟨0, [], Nat.zero_le _, rfl, by simp, by simpa using HWr2.out.pr.refl⟩
    case round =>
      obtain ⟨j, X, hj, rfl, hX, hW⟩ := hrel
      by_cases hp : j < m
      · have hjl : j < e.l.length := by rw [← HLn.out]; omega
        have hj3 : j < 3 := by omega
        obtain ⟨x, hx⟩ : ∃ x, x = e.l[j] := ⟨_, rfl⟩
        have hXs := HX.out.below (HWr2.out.bel.trans hW.bel)
        obtain ⟨bb, oo, hA, hbb⟩ := hXs.hd.at_ (by omega)
        subst hA
        obtain ⟨c0, c1, c2, c3, c4⟩ := hXs.five hjl
        rw [← hx] at c0 c1 c2 c3 c4
        have hxm : x ∈ e.l := by rw [hx]; exact List.getElem_mem hjl
        have hxl : x.Lies wr (· < b) := hXs.all _ hxm
        have hbx := hW.blk Hb2.out (by omega) (by decide)
        have htx := hW.blk Ht2.out (by omega) (by decide)
        have hS := shwL_step (o : Int) e.l X _ j ⟨hj3, by omega, by omega⟩ hjl hX
        rw [← hx] at hS
        obtain ⟨t, ht⟩ : ∃ t, t = bef (o : Int) j := ⟨_, rfl⟩
        rw [← ht] at hS
        have ct : wr.cell? ⟨w.heap.size + 1, j, none⟩ = some (.string ⟨t.toArray⟩) := by
          rw [htx.cell j, ht]
          match j, hj3 with
          | 0, _ => rw [← HT0.out]; rfl
          | 1, _ => rw [← HT1.out]; rfl
          | 2, _ => rw [← HT2.out]; rfl
        have hbd := congrArg List.length hS
        simp only [List.length_append] at hbd
        have HB : Hid (acc.length + X.length + t.length + (if (o : Int) = 25 ∨ alone x.op = true then x.shw else brk x.shw).length ≤ 140737488355328 ∧ True) := Lib.hid ⟨by have := HLe.out; omega, trivial⟩
        have HS := Lib.hid hS
        obtain ⟨W3, hW3⟩ : ∃ W3, W3 = wr.alloc (.cells #[.int .i64 x.op, .int .i64 x.pos, .int .i64 x.n, .string ⟨x.name.toArray⟩, .slice x.A x.l.length x.c] 34) := ⟨_, rfl⟩
        have h3 : Wr b (acc ++ X) wr W3 := by rw [hW3]; exact Wr.ofAlloc hW.pr _
        have hb3 : Blk W3 wr.heap.size 34 #[.int .i64 x.op, .int .i64 x.pos, .int .i64 x.n, .string ⟨x.name.toArray⟩, .slice x.A x.l.length x.c] := by rw [hW3]; exact heap_alloc_new wr _
        have ct3 : W3.cell? ⟨w.heap.size + 1, j, none⟩ = some (.string ⟨t.toArray⟩) := by
          rw [hW3, World.cell?_alloc_lt _ _ _ htx.lt]
          exact ct
        have HP := Lib.hid (put1 b (wr.heap.size + 1) (acc ++ X) t W3 (by rw [hW3]; simp) h3.pr (by simp only [List.length_append]; have := HB.out.1; omega))
        have HW3 := Lib.hid (hW.trans h3)
        have Hb3 := Lib.hid hb3
        have Hbx3 := Lib.hid (h3.blk hbx (by omega) (by decide))
        have hwr : w.heap.size < wr.heap.size := hbx.lt
        have HL3 := Lib.hid (hxl.below h3.bel)
        have HIHx := Lib.hid (HIH.out x hxm)
        have HRx := Lib.hid (HR.out x hxm)
        clear hX hW hXs hbb hbx htx hS hbd h3 hb3 ht hx hxm hxl
        subst hW3
        go_wp2_with fail
        refine HP.out.mono ?_
        rintro r w4 ⟨rfl, h4⟩
        have HW4 := Lib.hid h4
        have hb4 := h4.blk Hb3.out (by omega) (by decide)
        have hbx4 := h4.blk Hbx3.out (by omega) (by decide)
        obtain ⟨⟨k0, k1, k2, k3, k4⟩, -⟩ := blkx hbx4
        obtain ⟨⟨m0, m1, m2, m3, m4⟩, -⟩ := blkx hb4
        have HL4 := Lib.hid (HL3.out.below h4.bel)
        have HTb4 := Lib.hid (HTb2.out.next (HW3.out.bel.trans h4.bel))
        have HW4w := Lib.hid (HW3.out.trans h4)
        have Hb4 := Lib.hid hb4
        clear h4 hb4 hbx4 HP c0 c1 c2 c3 c4 ct ct3
        have HA2 := Lib.hid (alone_any x.op w4)
        by_cases h25 : (o : Int) = 25
        · rw [if_pos (Or.inl h25)] at HB HS
          have hq : ((o : Int) == 25) = true := by simp [h25]
          clear h25
          go_wp2_with fail
          refine (HIHx.out b (acc ++ X ++ t) _ HW4.out.pr HL4.out HTb4.out HRx.out (by have := HB.out.1; simp only [List.length_append]; omega)).mono ?_
          rintro r w5 ⟨rfl, h5⟩
          have HWn := Lib.hid (HW4w.out.trans h5)
          clear h5
          go_wp2
          go_roundw
          case rel => exact ⟨j + 1, X ++ (t ++ x.shw), by omega, by go_num, HS.out, by rw [← List.append_assoc, ← List.append_assoc]; exact HWn.out⟩
          case measure => simp [RowKit.intOf]; omega
        · have h25' : o ≠ 25 := by omega
          cases hal : alone x.op
          · rw [if_neg (by simp [h25, hal])] at HB HS
            rw [hal] at HA2
            clear hal
            have hbk : (brk x.shw).length = x.shw.length + 2 := by simp [brk]
            rw [hbk] at HB
            have HP4 := Lib.hid (put1 b w4.heap.size (acc ++ X ++ t) [40] w4 rfl HW4.out.pr (by have := HB.out.1; simp only [List.length_append, List.length_cons, List.length_nil]; omega))
            clear hbk
            go_wp2_with fail
            refine HA2.out.mono ?_
            rintro r w4' ⟨rfl, rfl⟩
            go_wp2_with fail
            refine HP4.out.mono ?_
            rintro r w5 ⟨rfl, h5⟩
            have HW5 := Lib.hid h5
            obtain ⟨⟨m0, m1, m2, m3, m4⟩, -⟩ := blkx (h5.blk Hb4.out (by omega) (by decide))
            have HL5 := Lib.hid (HL4.out.below h5.bel)
            have HTb5 := Lib.hid (HTb4.out.next h5.bel)
            have HW5w := Lib.hid (HW4w.out.trans h5)
            clear h5 HP4 HW4w HL4 HTb4 HW4
            go_wp2_with fail
            refine (HIHx.out b (acc ++ X ++ t ++ [40]) w5 HW5.out.pr HL5.out HTb5.out HRx.out (by have := HB.out.1; simp only [List.length_append, List.length_cons, List.length_nil]; omega)).mono ?_
            rintro r w6 ⟨rfl, h6⟩
            have HW6w := Lib.hid (HW5w.out.trans h6)
            have HP6 := Lib.hid (put1 b w6.heap.size _ [41] w6 rfl h6.pr (by have := HB.out.1; simp only [List.length_append, List.length_cons, List.length_nil]; omega))
            clear h6 HW5w HW5 HL5 HTb5
            go_wp2_with fail
            refine HP6.out.mono ?_
            rintro r w7 ⟨rfl, h7⟩
            have HWn := Lib.hid (HW6w.out.trans h7)
            clear h7 HP6 HW6w
            go_wp2
            go_roundw
            case rel => exact ⟨j + 1, X ++ (t ++ brk x.shw), by omega, by go_num, HS.out, by simpa [brk, List.append_assoc] using HWn.out⟩
            case measure => simp [RowKit.intOf]; omega
          · rw [if_pos (Or.inr hal)] at HB HS
            rw [hal] at HA2
            clear hal
            go_wp2_with fail
            refine HA2.out.mono ?_
            rintro r w4' ⟨rfl, rfl⟩
            go_wp2_with fail
            refine (HIHx.out b (acc ++ X ++ t) _ HW4.out.pr HL4.out HTb4.out HRx.out (by have := HB.out.1; simp only [List.length_append]; omega)).mono ?_
            rintro r w5 ⟨rfl, h5⟩
            have HWn := Lib.hid (HW4w.out.trans h5)
            clear h5
            go_wp2
            go_roundw
            case rel => exact ⟨j + 1, X ++ (t ++ x.shw), by omega, by go_num, HS.out, by rw [← List.append_assoc, ← List.append_assoc]; exact HWn.out⟩
            case measure => simp [RowKit.intOf]; omega
      · have hXe : X = shwL (o : Int) 0 e.l := by
          rw [← hX]
          by_cases h3 : j < 3
          · rw [shwL_end _ _ _ (by rw [← HLn.out]; omega), List.append_nil]
          · rw [shwL_out _ _ _ (fun h => h3 h.1), List.append_nil]
        have HWn := Lib.hid (HWr2.out.trans hW)
        rw [hXe] at HWn
        clear hX hW hXe
        go_wp2
        go_end0
        exact ⟨rfl, HWn.out⟩
  · have HW : Hid (Wr b (acc ++ shwL e.op 0 e.l) w W1) := Lib.hid (by
      rw [shwL_out _ _ _ (fun h => ho h.2), List.append_nil]
      exact hWr1)
    clear IH hL hT hR hlen h hWr1 hb1 hz1
    unfold Ex.val
    go_enter Tryd.func114, Tryd.ntmps114
    rcases Int.lt_or_le e.op 0 with ho1 | ho1
    · clear ho
      go_wp2_with fail
      rw [← hW1]
      clear hW1
      go_wp2
      (try simp only [Exit.inBlock, Exit.then])
      refine bodyPost_ret (results_none rfl _ _ _) rfl ?_
      exact ⟨rfl, HW.out⟩
    · have ho2 : 26 ≤ e.op := by omega
      clear ho
      go_wp2_with fail
      rw [← hW1]
      clear hW1
      go_wp2
      (try simp only [Exit.inBlock, Exit.then])
      refine bodyPost_ret (results_none rfl _ _ _) rfl ?_
      exact ⟨rfl, HW.out⟩
end Go.Proofs.YtpfehddkaapjiaaDoor
