/-
  The walk of ShowBrackets. Conditions: none.
-/
import Derived.Test.YtpfehddkaapjiaaDoorQSwH
import Derived.Test.YtpfehddkaapjiaaDoorQNumb
import Derived.Test.YtpfehddkaapjiaaDoorQTxI
namespace Go.Proofs.YtpfehddkaapjiaaDoor
open Go.RowKit Go.Lib Go.Shelf
attribute [local go_sem] Oper.semAt_some

theorem count_take40 {l : List UInt8} {j : Nat} (h : j < l.length) : (l.take (j + 1)).count 40 = (l.take j).count 40 + if l[j] = 40 then 1 else 0 := by
  rw [List.take_succ_eq_append_getElem h, List.count_append]
  congr 1
  by_cases h10 : l[j] = 40
  · simp [h10]
  · simp [h10]
/-- Where the loop stands. -/
structure BkS (e : Ex) (n i : Nat) : Prop where
  cnt : e.shw.count 40 = n
  le : n ≤ i
  len : e.shw.length ≤ 20 * i + 20
  ne : e.shw ≠ []
  rng : e.rng = true
theorem BkS.start : BkS (.mk 3 0 0 [97] none 0 []) 0 0 := ⟨rfl, Nat.le_refl _, by decide, by decide, rfl⟩
/-- One bracket more, where it is not alone. -/
def bk (e : Ex) : Nat := if alone e.op = true then 0 else 1
theorem par_cnt (e : Ex) : (if alone e.op = true then e.shw else brk e.shw).count 40 = e.shw.count 40 + bk e := by
  unfold bk
  split
  · rfl
  · simp [brk]
theorem par_len (e : Ex) : (if alone e.op = true then e.shw else brk e.shw).length ≤ e.shw.length + 2 := by
  split
  · omega
  · simp [brk]
variable {e : Ex} {n i : Nat} {A : Option Addr} {c : Nat}
theorem bk_le (e : Ex) : bk e ≤ 1 := by unfold bk; split <;> omega
theorem BkS.a0 (h : BkS e n i) : BkS (.mk 5 0 0 [] A c [e]) (n + bk e) (i + 1) := by
  have hs : (Ex.mk 5 0 0 [] A c [e]).shw = [110, 111, 116, 32] ++ (if alone e.op = true then e.shw else brk e.shw) := by simp [Ex.shw, shwL, bef, befT]
  have h1 := par_cnt e
  have h2 := par_len e
  have h3 := bk_le e
  refine ⟨?_, by have := h.le; omega, ?_, by rw [hs]; simp, by simp [Ex.rng, rngL, h.rng]⟩
  · rw [hs, List.count_append, h1, h.cnt]; simp
  · rw [hs, List.length_append]; have := h.len; simp only [List.length_cons, List.length_nil]; omega
theorem BkS.a1 (h : BkS e n i) : BkS (.mk 22 0 0 [] A c [.mk 1 0 0 [] none 0 [], e]) (n + bk e) (i + 1) := by
  have hs : (Ex.mk 22 0 0 [] A c [.mk 1 0 0 [] none 0 [], e]).shw = [48, 32, 45, 62, 32] ++ (if alone e.op = true then e.shw else brk e.shw) := by simp [Ex.shw, shwL, bef, befT, alone, Ex.op, Lib.itoa, Lib.decDigits_one]
  have h1 := par_cnt e
  have h2 := par_len e
  have h3 := bk_le e
  refine ⟨?_, by have := h.le; omega, ?_, by rw [hs]; simp, by simp [Ex.rng, rngL, h.rng]⟩
  · rw [hs, List.count_append, h1, h.cnt]; simp
  · rw [hs, List.length_append]; have := h.len; simp only [List.length_cons, List.length_nil]; omega
theorem BkS.a2 (h : BkS e n i) : BkS (.mk 24 0 1 [99] A c [e]) (n + bk e) (i + 1) := by
  have hs : (Ex.mk 24 0 1 [99] A c [e]).shw = (if alone e.op = true then e.shw else brk e.shw) ++ [32, 119, 104, 101, 110, 32, 99] := by simp [Ex.shw, shwL, bef, befT, clkT]
  have h1 := par_cnt e
  have h2 := par_len e
  have h3 := bk_le e
  refine ⟨?_, by have := h.le; omega, ?_, by rw [hs]; simp, by simp [Ex.rng, rngL, h.rng]⟩
  · rw [hs, List.count_append, h1, h.cnt]; simp
  · rw [hs, List.length_append]; have := h.len; simp only [List.length_cons, List.length_nil]; omega
theorem BkS.a3 (h : BkS e n i) : BkS (.mk 25 0 0 [99] A c [e, .mk 2 0 0 [] none 0 []]) (n + 1) (i + 1) := by
  have hs : (Ex.mk 25 0 0 [99] A c [e, .mk 2 0 0 [] none 0 []]).shw = [109, 101, 114, 103, 101, 40, 99, 44, 32] ++ e.shw ++ [44, 32, 102, 97, 108, 115, 101, 41] := by simp [Ex.shw, shwL, bef, befT]
  refine ⟨?_, by have := h.le; omega, ?_, by rw [hs]; simp, by simp [Ex.rng, rngL, h.rng]⟩
  · rw [hs, List.count_append, List.count_append, h.cnt]; simp; omega
  · rw [hs, List.length_append, List.length_append]; have := h.len; simp only [List.length_cons, List.length_nil]; omega
/-- The variable's memory. -/
structure EvS (w W : World) (b0 : Nat) (e : Ex) : Prop where
  bel : Below w.heap.size w W
  le : w.heap.size ≤ b0
  blk : Blk W b0 34 #[.int .i64 e.op, .int .i64 e.pos, .int .i64 e.n, .string ⟨e.name.toArray⟩, .slice e.A e.l.length e.c]
  lies : e.Lies W (fun b => b0 < b ∧ b < W.heap.size)
theorem EvS.step {w W : World} {b0 : Nat} (h : EvS w W b0 e) (op n : Int) (s : List UInt8) (l : List Ex) (hl : l.length ≤ 100) (ha : ∀ x ∈ l, x.Lies W (fun b => b0 < b ∧ b < W.heap.size)) :
    EvS w ((((((W.alloc (.cells (LX.cells l).toArray 34)).setCell ⟨b0, 0, none⟩ (.int .i64 op)).setCell ⟨b0, 1, none⟩ (.int .i64 0)).setCell ⟨b0, 2, none⟩ (.int .i64 n)).setCell ⟨b0, 3, none⟩ (.string ⟨s.toArray⟩)).setCell ⟨b0, 4, none⟩ (.slice (some ⟨W.heap.size, 0, none⟩) l.length l.length)) b0 (.mk op 0 n s (some ⟨W.heap.size, 0, none⟩) l.length l) := by
  have hz := h.bel.size
  have hO := five_other (W.alloc (.cells (LX.cells l).toArray 34)) b0 (.int .i64 op) (.int .i64 0) (.int .i64 n) (.string ⟨s.toArray⟩) (.slice (some ⟨W.heap.size, 0, none⟩) l.length l.length)
  refine ⟨(((((h.bel.alloc hz _).setCell (p := ⟨b0, 0, none⟩) h.le _).setCell (p := ⟨b0, 1, none⟩) h.le _).setCell (p := ⟨b0, 2, none⟩) h.le _).setCell (p := ⟨b0, 3, none⟩) h.le _).setCell (p := ⟨b0, 4, none⟩) h.le _, h.le, five_set (h.blk.alloc _) _ _ _ _ _, ?_⟩
  have hx : (Ex.mk op 0 n s (some ⟨W.heap.size, 0, none⟩) l.length l).Lies (W.alloc (.cells (LX.cells l).toArray 34)) (fun b => b0 < b ∧ b < W.heap.size + 1) :=
    sl_blk (heap_alloc_new W _) ⟨h.blk.lt, by omega⟩ hl fun x hx => (ha x hx).keep (fun b hb => ⟨hb.1, by omega⟩) (fun p hp => World.cell?_alloc_lt _ _ _ hp.2) x
  exact hx.keep (fun b hb => ⟨hb.1, by simp; exact hb.2⟩) (fun p hp => World.cell?_of_block (hO p.block (by have := hp.1; omega))) _

set_option maxRecDepth 100000 in
set_option maxHeartbeats 2000000 in
theorem showBrackets_run (A : Option Addr) (len cap : Nat) (l : List Int) (w : World) (hl : len = l.length) (hs : Ints w w.heap.size A l) (ht : Tbs w) : Calls Tryd.prog 7 #[.slice A len cap] w (RetYes w) := by
  have HF := Lib.hid (first8_any w ht)
  have HL := Lib.hid hl
  have HS := Lib.hid hs
  have HT := Lib.hid ht
  clear hs ht
  by_cases h15 : 15 < len
  · clear hl
    go_enter Tryd.func7, Tryd.ntmps7
    go_wp2_with fail
    refine HF.out.mono ?_
    rintro e w1 ⟨rfl, hB1⟩
    go_wp2
    go_ret
    exact ⟨rfl, hB1⟩
  have h15' : len ≤ 15 := by omega
  clear hl h15
  go_enter Tryd.func7, Tryd.ntmps7
  go_wp2_with fail
  refine HF.out.mono ?_
  rintro e w1 ⟨rfl, hB⟩
  have HB1 := Lib.hid hB
  clear hB HF
  go_wp2_with fail
  have HI : Hid (EvS w (w1.alloc (.cells #[.int .i64 3, .int .i64 0, .int .i64 0, .string { data := #[97] }, .slice none 0 0] 34)) w1.heap.size (.mk 3 0 0 [97] none 0 [])) := Lib.hid ⟨HB1.out.alloc HB1.out.size _, HB1.out.size, heap_alloc_new w1 _, sl_bare _ _ _ _ _ _⟩
  go_loopw [5, 6, 7] (fun v5 v6 v7 wr => ∃ (k n : Nat) (e : Ex) (a : Bool), k ≤ len ∧ v5 = .int .i64 (n : Int) ∧ v6 = .bool a ∧ v7 = .int .i64 (k : Int) ∧ a = alone e.op ∧ BkS e n k ∧ EvS w wr w1.heap.size e) (fun _ _ v7 _ => len - (RowKit.intOf v7).toNat)
  case atStart => exact ⟨0, 0, _, true, Nat.zero_le _, rfl, rfl, rfl, rfl, BkS.start, HI.out⟩
  case round =>
    obtain ⟨k, n, e, a, hk, rfl, rfl, rfl, hae, hSt, hE⟩ := hrel
    have hzb := hE.le
    by_cases hp : k < len
    · have hkl : k < l.length := by rw [← HL.out]; exact hp
      obtain ⟨ad, rfl, -, hc⟩ := (HS.out.below hE.bel).pick hkl
      obtain ⟨z, hz⟩ : ∃ z, z = l[k] := ⟨_, rfl⟩
      rw [← hz] at hc
      have HN := Lib.hid (fun W => number_any z 4 W (by omega) (by omega))
      obtain ⟨v, hv⟩ : ∃ v : Nat, z % 4 = (v : Int) := ⟨(z % 4).toNat, by omega⟩
      have hv4 : v < 4 := by omega
      rw [hv] at HN
      have HSt := Lib.hid hSt
      have HE := Lib.hid hE
      have Hae := Lib.hid hae
      have hn15 : n ≤ 15 := by have := hSt.le; omega
      obtain ⟨⟨k0, k1, k2, k3, k4⟩, -⟩ := blkx hE.blk
      have HQ : ∀ (op n : Int) (s : List UInt8) (l : List Ex), l.length ≤ 100 → (∀ x ∈ l, x = e ∨ x = .mk 1 0 0 [] none 0 [] ∨ x = .mk 2 0 0 [] none 0 []) → EvS w ((((((wr.alloc (.cells (LX.cells l).toArray 34)).setCell ⟨w1.heap.size, 0, none⟩ (.int .i64 op)).setCell ⟨w1.heap.size, 1, none⟩ (.int .i64 0)).setCell ⟨w1.heap.size, 2, none⟩ (.int .i64 n)).setCell ⟨w1.heap.size, 3, none⟩ (.string ⟨s.toArray⟩)).setCell ⟨w1.heap.size, 4, none⟩ (.slice (some ⟨wr.heap.size, 0, none⟩) l.length l.length)) w1.heap.size (.mk op 0 n s (some ⟨wr.heap.size, 0, none⟩) l.length l) :=
        fun op n s l h1 h2 => HE.out.step op n s l h1 fun x hx => by
          rcases h2 x hx with rfl | rfl | rfl
          · exact HE.out.lies
          · exact sl_bare _ _ _ _ _ _
          · exact sl_bare _ _ _ _ _ _
      have HQ2 := Lib.hid HQ
      clear hSt hE hae hz hv HQ
      rcases (show v = 0 ∨ v = 1 ∨ v = 2 ∨ v = 3 by omega) with rfl | rfl | rfl | rfl
      · obtain ⟨⟨m0, m1, m2, m3, m4⟩, f0, f1, f2, f3, f4⟩ := blkx (HE.out.blk.alloc (.cells #[.int .i64 e.op, .int .i64 e.pos, .int .i64 e.n, .string ⟨e.name.toArray⟩, .slice e.A e.l.length e.c] 34))
        have HEn : Hid (EvS w ((((((wr.alloc (.cells #[.int .i64 e.op, .int .i64 e.pos, .int .i64 e.n, .string ⟨e.name.toArray⟩, .slice e.A e.l.length e.c] 34)).setCell ⟨w1.heap.size, 0, none⟩ (.int .i64 5)).setCell ⟨w1.heap.size, 1, none⟩ (.int .i64 0)).setCell ⟨w1.heap.size, 2, none⟩ (.int .i64 0)).setCell ⟨w1.heap.size, 3, none⟩ (.string { data := #[] })).setCell ⟨w1.heap.size, 4, none⟩ (.slice (some ⟨wr.heap.size, 0, none⟩) 1 1)) w1.heap.size (.mk 5 0 0 [] (some ⟨wr.heap.size, 0, none⟩) 1 [e])) := Lib.hid (HQ2.out 5 0 [] [e] (by simp) (by simp))
        have HSn := Lib.hid (HSt.out.a0 (A := some ⟨wr.heap.size, 0, none⟩) (c := 1))
        clear HQ2
        cases a
        · have Hbk : Hid (bk e = 1) := Lib.hid (by unfold bk; rw [← Hae.out]; rfl)
          go_wp2_with fail
          refine (HN.out _).mono ?_
          rintro e' w' ⟨rfl, rfl⟩
          go_wp2
          go_roundw
          case rel => exact ⟨k + 1, n + 1, _, false, by omega, by go_num, rfl, by go_num, rfl, by have := HSn.out; rw [Hbk.out] at this; exact this, HEn.out⟩
          case measure => simp [RowKit.intOf]; omega
        · have Hbk : Hid (bk e = 0) := Lib.hid (by unfold bk; rw [← Hae.out]; rfl)
          go_wp2_with fail
          refine (HN.out _).mono ?_
          rintro e' w' ⟨rfl, rfl⟩
          go_wp2
          go_roundw
          case rel => exact ⟨k + 1, n, _, false, by omega, by go_num, rfl, by go_num, rfl, by have := HSn.out; rw [Hbk.out] at this; exact this, HEn.out⟩
          case measure => simp [RowKit.intOf]; omega
      · obtain ⟨⟨m0, m1, m2, m3, m4⟩, f0, f1, f2, f3, f4⟩ := blkx (HE.out.blk.alloc (.cells #[.int .i64 1, .int .i64 0, .int .i64 0, .string { data := #[] }, .slice none 0 0, .int .i64 e.op, .int .i64 e.pos, .int .i64 e.n, .string ⟨e.name.toArray⟩, .slice e.A e.l.length e.c] 34))
        have HEn : Hid (EvS w ((((((wr.alloc (.cells #[.int .i64 1, .int .i64 0, .int .i64 0, .string { data := #[] }, .slice none 0 0, .int .i64 e.op, .int .i64 e.pos, .int .i64 e.n, .string ⟨e.name.toArray⟩, .slice e.A e.l.length e.c] 34)).setCell ⟨w1.heap.size, 0, none⟩ (.int .i64 22)).setCell ⟨w1.heap.size, 1, none⟩ (.int .i64 0)).setCell ⟨w1.heap.size, 2, none⟩ (.int .i64 0)).setCell ⟨w1.heap.size, 3, none⟩ (.string { data := #[] })).setCell ⟨w1.heap.size, 4, none⟩ (.slice (some ⟨wr.heap.size, 0, none⟩) 2 2)) w1.heap.size (.mk 22 0 0 [] (some ⟨wr.heap.size, 0, none⟩) 2 [.mk 1 0 0 [] none 0 [], e])) := Lib.hid (HQ2.out 22 0 [] [.mk 1 0 0 [] none 0 [], e] (by simp) (by simp))
        have HSn := Lib.hid (HSt.out.a1 (A := some ⟨wr.heap.size, 0, none⟩) (c := 2))
        clear HQ2
        cases a
        · have Hbk : Hid (bk e = 1) := Lib.hid (by unfold bk; rw [← Hae.out]; rfl)
          go_wp2_with fail
          refine (HN.out _).mono ?_
          rintro e' w' ⟨rfl, rfl⟩
          go_wp2
          go_roundw
          case rel => exact ⟨k + 1, n + 1, _, false, by omega, by go_num, rfl, by go_num, rfl, by have := HSn.out; rw [Hbk.out] at this; exact this, HEn.out⟩
          case measure => simp [RowKit.intOf]; omega
        · have Hbk : Hid (bk e = 0) := Lib.hid (by unfold bk; rw [← Hae.out]; rfl)
          go_wp2_with fail
          refine (HN.out _).mono ?_
          rintro e' w' ⟨rfl, rfl⟩
          go_wp2
          go_roundw
          case rel => exact ⟨k + 1, n, _, false, by omega, by go_num, rfl, by go_num, rfl, by have := HSn.out; rw [Hbk.out] at this; exact this, HEn.out⟩
          case measure => simp [RowKit.intOf]; omega
      · obtain ⟨⟨m0, m1, m2, m3, m4⟩, f0, f1, f2, f3, f4⟩ := blkx (HE.out.blk.alloc (.cells #[.int .i64 e.op, .int .i64 e.pos, .int .i64 e.n, .string ⟨e.name.toArray⟩, .slice e.A e.l.length e.c] 34))
        have HEn : Hid (EvS w ((((((wr.alloc (.cells #[.int .i64 e.op, .int .i64 e.pos, .int .i64 e.n, .string ⟨e.name.toArray⟩, .slice e.A e.l.length e.c] 34)).setCell ⟨w1.heap.size, 0, none⟩ (.int .i64 24)).setCell ⟨w1.heap.size, 1, none⟩ (.int .i64 0)).setCell ⟨w1.heap.size, 2, none⟩ (.int .i64 1)).setCell ⟨w1.heap.size, 3, none⟩ (.string { data := #[99] })).setCell ⟨w1.heap.size, 4, none⟩ (.slice (some ⟨wr.heap.size, 0, none⟩) 1 1)) w1.heap.size (.mk 24 0 1 [99] (some ⟨wr.heap.size, 0, none⟩) 1 [e])) := Lib.hid (HQ2.out 24 1 [99] [e] (by simp) (by simp))
        have HSn := Lib.hid (HSt.out.a2 (A := some ⟨wr.heap.size, 0, none⟩) (c := 1))
        clear HQ2
        cases a
        · have Hbk : Hid (bk e = 1) := Lib.hid (by unfold bk; rw [← Hae.out]; rfl)
          go_wp2_with fail
          refine (HN.out _).mono ?_
          rintro e' w' ⟨rfl, rfl⟩
          go_wp2
          go_roundw
          case rel => exact ⟨k + 1, n + 1, _, false, by omega, by go_num, rfl, by go_num, rfl, by have := HSn.out; rw [Hbk.out] at this; exact this, HEn.out⟩
          case measure => simp [RowKit.intOf]; omega
        · have Hbk : Hid (bk e = 0) := Lib.hid (by unfold bk; rw [← Hae.out]; rfl)
          go_wp2_with fail
          refine (HN.out _).mono ?_
          rintro e' w' ⟨rfl, rfl⟩
          go_wp2
          go_roundw
          case rel => exact ⟨k + 1, n, _, false, by omega, by go_num, rfl, by go_num, rfl, by have := HSn.out; rw [Hbk.out] at this; exact this, HEn.out⟩
          case measure => simp [RowKit.intOf]; omega
      · obtain ⟨⟨m0, m1, m2, m3, m4⟩, f0, f1, f2, f3, f4⟩ := blkx (HE.out.blk.alloc (.cells #[.int .i64 e.op, .int .i64 e.pos, .int .i64 e.n, .string ⟨e.name.toArray⟩, .slice e.A e.l.length e.c, .int .i64 2, .int .i64 0, .int .i64 0, .string { data := #[] }, .slice none 0 0] 34))
        have HEn : Hid (EvS w ((((((wr.alloc (.cells #[.int .i64 e.op, .int .i64 e.pos, .int .i64 e.n, .string ⟨e.name.toArray⟩, .slice e.A e.l.length e.c, .int .i64 2, .int .i64 0, .int .i64 0, .string { data := #[] }, .slice none 0 0] 34)).setCell ⟨w1.heap.size, 0, none⟩ (.int .i64 25)).setCell ⟨w1.heap.size, 1, none⟩ (.int .i64 0)).setCell ⟨w1.heap.size, 2, none⟩ (.int .i64 0)).setCell ⟨w1.heap.size, 3, none⟩ (.string { data := #[99] })).setCell ⟨w1.heap.size, 4, none⟩ (.slice (some ⟨wr.heap.size, 0, none⟩) 2 2)) w1.heap.size (.mk 25 0 0 [99] (some ⟨wr.heap.size, 0, none⟩) 2 [e, .mk 2 0 0 [] none 0 []])) := Lib.hid (HQ2.out 25 0 [99] [e, .mk 2 0 0 [] none 0 []] (by simp) (by simp))
        have HSn := Lib.hid (HSt.out.a3 (A := some ⟨wr.heap.size, 0, none⟩) (c := 2))
        clear HQ2
        cases a
        · have Hbk : Hid (bk e = 1) := Lib.hid (by unfold bk; rw [← Hae.out]; rfl)
          go_wp2_with fail
          refine (HN.out _).mono ?_
          rintro e' w' ⟨rfl, rfl⟩
          go_wp2
          go_roundw
          case rel => exact ⟨k + 1, n + 1, _, true, by omega, by go_num, rfl, by go_num, rfl, HSn.out, HEn.out⟩
          case measure => simp [RowKit.intOf]; omega
        · have Hbk : Hid (bk e = 0) := Lib.hid (by unfold bk; rw [← Hae.out]; rfl)
          go_wp2_with fail
          refine (HN.out _).mono ?_
          rintro e' w' ⟨rfl, rfl⟩
          go_wp2
          go_roundw
          case rel => exact ⟨k + 1, n + 1, _, true, by omega, by go_num, rfl, by go_num, rfl, HSn.out, HEn.out⟩
          case measure => simp [RowKit.intOf]; omega
    · obtain rfl : k = len := by omega
      have hwd : e.shw.length ≤ 20 * k + 20 := hSt.len
      obtain ⟨⟨k0, k1, k2, k3, k4⟩, -⟩ := blkx hE.blk
      have HC := Lib.hid (sexpr_any e wr (hE.lies.keep (fun _ hb => hb.2) (fun _ _ => rfl) e) (HT.out.below hE.bel).tab (HT.out.below hE.bel).bef hSt.rng (by omega) hSt.ne)
      unfold Ex.val at HC
      have HB := Lib.hid hE.bel
      have hcnt := hSt.cnt
      have hn15 : n ≤ 15 := by have := hSt.le; omega
      clear hE hSt HI hae
      obtain ⟨s, hs⟩ : ∃ s : ByteArray, s = ⟨e.shw.toArray⟩ := ⟨_, rfl⟩
      have hsz : s.size ≤ 400 := by rw [hs]; show e.shw.length ≤ 400; omega
      have hct : s.data.toList.count 40 = n := by rw [hs]; exact hcnt
      rw [← hs] at HC
      have HCt := Lib.hid hct
      clear hs hcnt hwd hct
      go_wp2_with fail
      refine HC.out.mono ?_
      rintro r w2 ⟨rfl, h2⟩
      have HB2 := Lib.hid (HB.out.trans (h2.mono HB.out.size))
      clear h2 HC HB k0 k1 k2 k3 k4
      go_wp2_with fail
      go_loop [10, 11] (fun x j => ∃ q : Nat, q ≤ s.size ∧ x = .int .i64 (((s.data.toList.take q).count 40 : Nat) : Int) ∧ j = .int .i64 (q : Int)) (fun _ j => s.size - (RowKit.intOf j).toNat)
      case atStart => exact ⟨0, by omega, rfl, rfl⟩
      case round =>
        obtain ⟨q, hq, rfl, rfl⟩ := hrel
        by_cases hqp : q < s.size
        · have hc0 := count_take40 (l := s.data.toList) (j := q) (by simpa using hqp)
          obtain ⟨c, hc⟩ : ∃ c, s[q] = c := ⟨_, rfl⟩
          have hcs : s.data.toList[q]'(by simpa using hqp) = c := hc
          rw [hcs] at hc0
          have hcle : (s.data.toList.take q).count 40 ≤ 400 := by
            have := List.count_le_length (a := (40 : UInt8)) (l := s.data.toList.take q)
            simp at this
            omega
          obtain ⟨m, hm⟩ : ∃ m, m = (s.data.toList.take q).count 40 := ⟨_, rfl⟩
          rw [← hm] at hc0 hcle ⊢
          have HC0 := Lib.hid hc0
          clear hcs hc0 hm
          by_cases h10 : c = 40
          · subst h10
            go_wp2
            go_round
            case rel => exact ⟨q + 1, by omega, by rw [HC0.out]; go_num, by go_num⟩
            case measure => simp [RowKit.intOf]; omega
          · have h10' : ((c.toNat : Int) == 40) = false := beq_eq_false_iff_ne.2 (fun h => h10 (UInt8.toNat_inj.1 (by show c.toNat = 40; omega)))
            have HNe := Lib.hid h10
            clear h10
            go_wp2
            go_round
            case rel => exact ⟨q + 1, by omega, by rw [HC0.out, if_neg HNe.out, Nat.add_zero], by go_num⟩
            case measure => simp [RowKit.intOf]; omega
        · obtain rfl : q = s.size := by omega
          have e : (s.data.toList.take s.size).count 40 = n := by rw [List.take_of_length_le (by simp)]; exact HCt.out
          rw [e]
          clear e hqp hq
          go_wp2
          go_ret
          exact ⟨rfl, HB2.out⟩
theorem showBrackets_walk (A : Option Addr) (len cap : Nat) (l : List Int) (w : World) (hl : len = l.length) (hs : Ints w w.heap.size A l) (hL : laidMetH Tryd.prog laid4w w) : Calls Tryd.prog 7 #[.slice A len cap] w (RetYes w) := showBrackets_run A len cap l w hl hs ⟨(bef_of4 hL).1, (bef_of4 hL).2⟩
end Go.Proofs.YtpfehddkaapjiaaDoor
