/-
  The walk of the law TreeNames. Conditions: the theorem's own premises.
-/
import Derived.Test.YtacmibkcnmaagaaDoorQTvL
import Derived.Test.YtacmibkcnmaagaaDoorQTvN
import Derived.Test.YtacmibkcnmaagaaDoorQTxFr
import Derived.Test.YtacmibkcnmaagaaDoorQTrJ
import Derived.Test.YtacmibkcnmaagaaDoorQNumb
import Derived.Test.YtacmibkcnmaagaaDoorQTnA
import Derived.Test.YtacmibkcnmaagaaDoorQDkSee
namespace Go.Proofs.YtacmibkcnmaagaaDoor
open Go.RowKit Go.Lib
attribute [local go_sem] Oper.semAt_some

theorem te_of {w : World} {ads : List Addr} (h : Sents w ads) : Te w (fun k => ads.getD k default) := ⟨cellOf h 1 _ rfl, cellOf h 2 _ rfl, cellOf h 7 _ rfl, cellOf h 8 _ rfl⟩
theorem badN_a : badN [97] = false := by kernel_rfl
theorem badN_x : badN [120] = false := by kernel_rfl
theorem badN_f : badN [102] = false := by kernel_rfl
theorem Nms.calls (p : Nms) (B g : Nat) (W : World) (er : Nat → Addr) (hT : Te W er) (hR : p.Rows W B g) (hl : p.l2 ≠ []) (hz : p.l2.length ≤ 100) : Calls Tryd.prog 9 #[(p.ng B g).val] W (RetVa W er p.bad) := by
  have h := valid_any (p.ng B g) W er hT (hR.lies hz) 1 (p.fits B g) (by show 2 ≤ 100000; decide) ⟨by show 1 ≤ 1000000; decide, by show 1 ≤ 1000000; decide, by show 1 ≤ 1000000; decide⟩
  rwa [p.valid B g hl] at h
theorem Sents.at8 {w : World} {ads : List Addr} (h : Sents w ads) : ads[8]? = some (ads.getD 8 default) := by
  have hl : 8 < ads.length := by rw [h.len]; decide
  simp [List.getD, List.getElem?_eq_getElem hl]
theorem same_at7 (w : World) (ads : List Addr) (m b : Nat) (a : Addr) (c pos p : Int) (h : Sents w ads) (ha : ads[m]? = some a) (hb : Blk w b 64 #[.int .i64 pos, .iface 188 (.pointer (some a))]) (hc : c = 101 + (m : Int)) (hp : p = pos) :
    Calls Tryd.prog 12 #[.iface 62 (.pointer (some ⟨b, 0, none⟩)), fault c true false p 0] w (RetB w (.bool true)) := by
  subst hc; subst hp; exact same_fault w _ _ _ _ fun _ hB => fault_placed _ ads m b a p (h.later hB) ha (hb.below hB hb.lt)
theorem empty_of {s : ByteArray} (h : s.size = 0) : s = ⟨#[]⟩ := of_bytes (List.eq_nil_of_length_eq_zero (by simpa using h))
theorem filled_of {s : ByteArray} (h : ¬ s.size = 0) : s.toList.isEmpty = false := by
  rw [ByteArray.toList_eq]
  simp only [List.isEmpty_eq_false_iff]
  intro e
  exact h (by simpa using congrArg List.length e)
theorem blk4x {w : World} {g : Nat} {t : TypeId} {v0 v1 v2 v3 : Value} (h : Blk w g t #[v0, v1, v2, v3]) :
    (w.cell? ⟨g, 0, none⟩ = some v0 ∧ w.cell? ⟨g, 1, none⟩ = some v1 ∧ w.cell? ⟨g, 2, none⟩ = some v2 ∧ w.cell? ⟨g, 3, none⟩ = some v3) ∧
    (w.frozen? ⟨g, 0, none⟩ = false ∧ w.frozen? ⟨g, 1, none⟩ = false ∧ w.frozen? ⟨g, 2, none⟩ = false ∧ w.frozen? ⟨g, 3, none⟩ = false) :=
  ⟨⟨h.cell 0, h.cell 1, h.cell 2, h.cell 3⟩, ⟨h.free 0, h.free 1, h.free 2, h.free 3⟩⟩
theorem blk2x {w : World} {g : Nat} {t : TypeId} {v0 v1 : Value} (h : Blk w g t #[v0, v1]) :
    (w.cell? ⟨g, 0, none⟩ = some v0 ∧ w.cell? ⟨g, 1, none⟩ = some v1) ∧ (w.frozen? ⟨g, 0, none⟩ = false ∧ w.frozen? ⟨g, 1, none⟩ = false) :=
  ⟨⟨h.cell 0, h.cell 1⟩, ⟨h.free 0, h.free 1⟩⟩

set_option maxRecDepth 100000 in
set_option maxHeartbeats 4000000 in
theorem treeNames_walk (s : ByteArray) (what : Int) (w : World) (_ : s.size ≤ maxLen) (_ : (Lit.int .i64 what).wf = true) (hL : laidMetH Tryd.prog laid21 w) : Calls Tryd.prog 4 #[.string s, .int .i64 what] w (RetYes w) := by
  obtain ⟨ads, hS⟩ := sents_of hL
  have HS := Lib.hid hS
  have HF := Lib.hid (first_any w)
  have hi1 := Int.emod_nonneg what (show (8 : Int) ≠ 0 by decide)
  have hi2 := Int.emod_lt_of_pos what (show (0 : Int) < 8 by decide)
  obtain ⟨m, hm⟩ : ∃ m : Nat, what % 8 = (m : Int) := ⟨(what % 8).toNat, by omega⟩
  have HN1 := Lib.hid (fun W => number_any what 8 W (by decide) (by decide))
  rw [hm] at HN1 hi2
  clear hS hL hi1 hm
  go_enter Tryd.func4, Tryd.ntmps4
  go_wp2_with fail
  refine HF.out.mono ?_
  rintro e w1 ⟨rfl, hB1⟩
  have HB1 := Lib.hid hB1
  clear hB1
  by_cases hs : (60 : Int) < (s.size : Int)
  · go_wp2
    go_ret
    exact ⟨rfl, HB1.out⟩
  · go_wp2_with fail
    refine (HN1.out _).mono ?_
    rintro e w9 ⟨rfl, rfl⟩
    obtain ⟨W8, hW8⟩ : ∃ W8, W8 = ((((((((w1.alloc (.cells #[.int .i64 3, .string { data := #[97] }, .int .i64 2, .slice none 0 0] 26)).alloc (.cells #[.int .i64 4, .string { data := #[120] }, .int .i64 1, .slice none 0 0] 26)).alloc (.cells #[.string { data := #[97] }, .bool true] 44)).alloc (.cells #[.int .i64 5, .string { data := #[121] }, .int .i64 1, .slice (some ⟨w1.heap.size + 1 + 1, 0, none⟩) 1 1] 26)).alloc (.cells #[.string { data := #[102] }, .slice (some ⟨w1.heap.size, 0, none⟩) 1 1, .slice (some ⟨w1.heap.size + 1, 0, none⟩) 1 1, .slice (some ⟨w1.heap.size + 1 + 1 + 1, 0, none⟩) 1 1, .slice (some ⟨w1.heap.size + 1 + 1 + 1 + 1 + 1 + 1 + 1, 0, none⟩) 2 2] 30)).alloc (.cells #[.string { data := #[120] }] 9)).alloc (.cells #[.string { data := #[121] }] 9)).alloc (.cells #[.int .i64 6, .slice (some ⟨w1.heap.size + 1 + 1 + 1 + 1 + 1, 0, none⟩) 1 1, .int .i64 3, .int .i64 7, .int .i64 0, .string { data := #[97] }, .slice none 0 0, .string { data := #[] }, .slice none 0 0, .string { data := #[] }, .int .i64 8, .slice (some ⟨w1.heap.size + 1 + 1 + 1 + 1 + 1 + 1, 0, none⟩) 1 1, .int .i64 0, .int .i64 0, .int .i64 0, .string { data := #[] }, .slice none 0 0, .string { data := #[103] }, .slice none 0 0, .string { data := #[97] }] 37)) := ⟨_, rfl⟩
    have hR8 : Nms.Rows ⟨[102], [97], [120], [97], [120], [97], [[121]], [97]⟩ W8 w1.heap.size (w1.heap.size + 6) := by
      rw [hW8]
      exact ⟨(((((((blk_news (by simp)).alloc _).alloc _).alloc _).alloc _).alloc _).alloc _).alloc _, ((((((blk_news (by simp)).alloc _).alloc _).alloc _).alloc _).alloc _).alloc _, (((((blk_news (by simp)).alloc _).alloc _).alloc _).alloc _).alloc _, ((((blk_news (by simp)).alloc _).alloc _).alloc _).alloc _, ((blk_news (by simp)).alloc _).alloc _, (blk_news (by simp)).alloc _, blk_news (by simp)⟩
    have hn8 : Blk W8 (w1.heap.size + 4) 30 #[.string { data := #[102] }, .slice (some ⟨w1.heap.size, 0, none⟩) 1 1, .slice (some ⟨w1.heap.size + 1, 0, none⟩) 1 1, .slice (some ⟨w1.heap.size + 3, 0, none⟩) 1 1, .slice (some ⟨w1.heap.size + 7, 0, none⟩) 2 2] := by
      rw [hW8]
      exact (((blk_news (by simp)).alloc _).alloc _).alloc _
    have hB8 : Below w.heap.size w W8 := by
      rw [hW8]
      have h1 := HB1.out.size
      exact ((((((((HB1.out.alloc (by first | omega | (simp; omega)) _).alloc (by first | omega | (simp; omega)) _).alloc (by first | omega | (simp; omega)) _).alloc (by first | omega | (simp; omega)) _).alloc (by first | omega | (simp; omega)) _).alloc (by first | omega | (simp; omega)) _).alloc (by first | omega | (simp; omega)) _).alloc (by first | omega | (simp; omega)) _)
    rw [← hW8]
    clear hW8
    have HR8 := Lib.hid hR8
    have Hn8 := Lib.hid hn8
    have HB8 := Lib.hid hB8
    obtain ⟨⟨k0, k1, k2, k3, k4⟩, ⟨f0, -, -, -, -⟩⟩ := blkx hn8
    clear hR8 hn8 hB8
    obtain ⟨mi, hmi⟩ : ∃ mi : Int, mi = (m : Int) := ⟨_, rfl⟩
    rw [← hmi] at hi2 HN1 ⊢
    have hmi0 : 0 ≤ mi := by omega
    clear hmi
    obtain ⟨⟨i0, i1, i2, i3⟩, ⟨-, fi1, -, -⟩⟩ := blk4x HR8.out.i
    obtain ⟨⟨o0, o1, o2, o3⟩, ⟨-, fo1, -, -⟩⟩ := blk4x HR8.out.o
    obtain ⟨⟨c0, c1⟩, ⟨fc0, -⟩⟩ := blk2x HR8.out.c
    obtain ⟨⟨l0, l1, l2, l3⟩, -⟩ := blk4x HR8.out.l
    have n10 := HR8.out.n1.cell 0
    have fn10 := HR8.out.n1.free 0
    have q1 : W8.cell? ⟨w1.heap.size + 7, 1, none⟩ = some (.slice (some ⟨w1.heap.size + 5, 0, none⟩) 1 1) := HR8.out.q.cell 1
    have fq5 := HR8.out.q.free 5
    have fq19 := HR8.out.q.free 19
    have q5 : W8.cell? ⟨w1.heap.size + 7, 5, none⟩ = some (.string ⟨#[97]⟩) := HR8.out.q.cell 5
    have q19 : W8.cell? ⟨w1.heap.size + 7, 19, none⟩ = some (.string ⟨#[97]⟩) := HR8.out.q.cell 19
    have fq11 := (HR8.out.q.alloc (.cells #[.string { data := #[121] }, .string s] 9)).free 11
    have q11 : (W8.alloc (.cells #[.string { data := #[121] }, .string s] 9)).cell? ⟨w1.heap.size + 7, 11, none⟩ = some (.slice (some ⟨w1.heap.size + 6, 0, none⟩) 1 1) := (HR8.out.q.alloc (.cells #[.string { data := #[121] }, .string s] 9)).cell 11
    have HRn := Lib.hid (fun W => rname_any s W (by omega))
    have HNB : Hid (badN s.data.toList = !nameB s) := Lib.hid rfl
    obtain rfl | rfl | rfl | rfl | rfl | rfl | rfl | rfl : mi = 0 ∨ mi = 1 ∨ mi = 2 ∨ mi = 3 ∨ mi = 4 ∨ mi = 5 ∨ mi = 6 ∨ mi = 7 := by omega
    · have hz8 : True := trivial
      have hR : Nms.Rows ⟨s.data.toList, [97], [120], [97], [120], [97], [[121]], [97]⟩ (W8.setCell ⟨w1.heap.size + 4, 0, none⟩ (.string s)) w1.heap.size (w1.heap.size + 6) := by
        have h := HR8.out
        exact ⟨h.i.far (by simp) _, h.o.far (by simp) _, h.c.far (by simp) _, h.l.far (by simp) _, h.n1.far (by simp) _, h.n2.far (by simp) _, h.q.far (by simp) _⟩
      have HBw : Hid (Below w.heap.size w (W8.setCell ⟨w1.heap.size + 4, 0, none⟩ (.string s))) := Lib.hid (HB8.out.setCell (by have := HB1.out.size; simp; omega) _)
      have HVd := Lib.hid (Nms.calls (⟨s.data.toList, [97], [120], [97], [120], [97], [[121]], [97]⟩ : Nms) w1.heap.size (w1.heap.size + 6) (W8.setCell ⟨w1.heap.size + 4, 0, none⟩ (.string s)) (fun k => ads.getD k default) (te_of (HS.out.later HBw.out)) hR (by simp) (by simp))
      have hbad : (⟨s.data.toList, [97], [120], [97], [120], [97], [[121]], [97]⟩ : Nms).bad = if badN s.data.toList = true then some (none, 8) else none := by
        unfold Nms.bad
        simp [badN_a, badN_x, badN_y]
      rw [hbad] at HVd
      clear hbad hR
      unfold Ng.val Nms.ng at HVd
      go_wp2_with fail
      refine HVd.out.mono ?_
      rintro e w9 ⟨hB9, hO⟩
      have HB9 := Lib.hid (HBw.out.trans (hB9.mono HBw.out.size))
      clear hB9 HVd
      cases hb : badN s.data.toList
      · have hN : nameB s = true := by have := HNB.out; rw [hb] at this; simpa using this.symm
        rw [if_neg (by simp [hb])] at hO
        obtain rfl : e = .returned .nilIface := hO
        have HRn1 := Lib.hid (HRn.out w9)
        rw [hN] at HRn1
        clear hb hN
        go_wp2_with fail
        refine HRn1.out.mono ?_
        rintro e w10 ⟨rfl, hB10⟩
        have HB10 := Lib.hid (HB9.out.trans (hB10.mono HB9.out.size))
        clear hB10
        go_wp2
        go_ret
        exact ⟨rfl, HB10.out⟩
      · have hN : nameB s = false := by have := HNB.out; rw [hb] at this; simpa using this.symm
        have HRn1 := Lib.hid (HRn.out w9)
        rw [hN] at HRn1
        by_cases h0 : s.size = 0
        · rw [if_pos hb] at hO
          obtain rfl : e = .returned (.iface 188 (.pointer (some (ads.getD 8 default)))) := hO
          have hs0 := empty_of h0
          clear hb hN h0
          subst hs0
          go_wp2_with fail
          refine HRn1.out.mono ?_
          rintro e w10 ⟨rfl, hB10⟩
          have HB10 := Lib.hid (HB9.out.trans (hB10.mono HB9.out.size))
          have HBk := Lib.hid (HB9.out.size)
          clear hB10
          go_wp2_with fail
          refine (HN1.out _).mono ?_
          rintro e w10' ⟨rfl, rfl⟩
          have HSm := Lib.hid (is_err w10 ads 8 (ads.getD 8 default) 109 (by decide) (HS.out.later HB10.out) HS.out.at8)
          go_wp2_with fail
          refine HSm.out.mono ?_
          rintro e w12 ⟨rfl, hB12⟩
          have HB12 := Lib.hid (HB10.out.trans (hB12.mono HB10.out.size))
          clear hB12
          go_wp2
          go_ret
          exact ⟨rfl, HB12.out⟩
        · rw [if_pos hb] at hO
          obtain rfl : e = .returned (.iface 188 (.pointer (some (ads.getD 8 default)))) := hO
          have hne := filled_of h0
          clear hb hN h0
          go_wp2_with fail
          refine HRn1.out.mono ?_
          rintro e w10 ⟨rfl, hB10⟩
          have HB10 := Lib.hid (HB9.out.trans (hB10.mono HB9.out.size))
          have HBk := Lib.hid (HB9.out.size)
          clear hB10
          have HSm := Lib.hid (is_err w10 ads 8 (ads.getD 8 default) 109 (by decide) (HS.out.later HB10.out) HS.out.at8)
          go_wp2_with fail
          refine HSm.out.mono ?_
          rintro e w12 ⟨rfl, hB12⟩
          have HB12 := Lib.hid (HB10.out.trans (hB12.mono HB10.out.size))
          clear hB12
          go_wp2
          go_ret
          exact ⟨rfl, HB12.out⟩
    · have hz8 : True := trivial
      have hR : Nms.Rows ⟨[102], s.data.toList, [120], [97], [120], [97], [[121]], [97]⟩ (W8.setCell ⟨w1.heap.size, 1, none⟩ (.string s)) w1.heap.size (w1.heap.size + 6) := by
        have h := HR8.out
        exact ⟨h.i.set 1 _, h.o.far (by simp) _, h.c.far (by simp) _, h.l.far (by simp) _, h.n1.far (by simp) _, h.n2.far (by simp) _, h.q.far (by simp) _⟩
      have HBw : Hid (Below w.heap.size w (W8.setCell ⟨w1.heap.size, 1, none⟩ (.string s))) := Lib.hid (HB8.out.setCell (by have := HB1.out.size; simp; omega) _)
      have HVd := Lib.hid (Nms.calls (⟨[102], s.data.toList, [120], [97], [120], [97], [[121]], [97]⟩ : Nms) w1.heap.size (w1.heap.size + 6) (W8.setCell ⟨w1.heap.size, 1, none⟩ (.string s)) (fun k => ads.getD k default) (te_of (HS.out.later HBw.out)) hR (by simp) (by simp))
      have hbad : (⟨[102], s.data.toList, [120], [97], [120], [97], [[121]], [97]⟩ : Nms).bad = if badN s.data.toList = true then some (some 3, 8) else none := by
        unfold Nms.bad
        simp [badN_a, badN_x, badN_f, badN_y]
      rw [hbad] at HVd
      clear hbad hR
      unfold Ng.val Nms.ng at HVd
      go_wp2_with fail
      refine HVd.out.mono ?_
      rintro e w9 ⟨hB9, hO⟩
      have HB9 := Lib.hid (HBw.out.trans (hB9.mono HBw.out.size))
      clear hB9 HVd
      cases hb : badN s.data.toList
      · have hN : nameB s = true := by have := HNB.out; rw [hb] at this; simpa using this.symm
        rw [if_neg (by simp [hb])] at hO
        obtain rfl : e = .returned .nilIface := hO
        have HRn1 := Lib.hid (HRn.out w9)
        rw [hN] at HRn1
        clear hb hN
        go_wp2_with fail
        refine HRn1.out.mono ?_
        rintro e w10 ⟨rfl, hB10⟩
        have HB10 := Lib.hid (HB9.out.trans (hB10.mono HB9.out.size))
        clear hB10
        go_wp2
        go_ret
        exact ⟨rfl, HB10.out⟩
      · have hN : nameB s = false := by have := HNB.out; rw [hb] at this; simpa using this.symm
        have HRn1 := Lib.hid (HRn.out w9)
        rw [hN] at HRn1
        by_cases h0 : s.size = 0
        · rw [if_pos hb] at hO
          obtain ⟨b, -, rfl, hblk⟩ := hO
          have hblk : Blk w9 b 64 #[.int .i64 (3 : Int), .iface 188 (.pointer (some (ads.getD 8 default)))] := hblk
          have hs0 := empty_of h0
          clear hb hN h0
          subst hs0
          go_wp2_with fail
          refine HRn1.out.mono ?_
          rintro e w10 ⟨rfl, hB10⟩
          have HB10 := Lib.hid (HB9.out.trans (hB10.mono HB9.out.size))
          have HBk := Lib.hid (HB9.out.size)
          have HBl := Lib.hid (hblk.below hB10 hblk.lt)
          clear hblk
          clear hB10
          go_wp2_with fail
          refine (HN1.out _).mono ?_
          rintro e w10' ⟨rfl, rfl⟩
          have HPl := Lib.hid (fun W => placed_any 109 3 W (by decide))
          go_wp2_with fail
          refine (HPl.out _).mono ?_
          rintro e w11 ⟨rfl, hB11⟩
          have HB11 := Lib.hid (HB10.out.trans (hB11.mono HB10.out.size))
          have HSm := Lib.hid (same_at7 w11 ads 8 b (ads.getD 8 default) 109 3 3 (HS.out.later HB11.out) HS.out.at8 (HBl.out.below hB11 HBl.out.lt) (by decide) rfl)
          clear hB11
          go_wp2_with fail
          refine HSm.out.mono ?_
          rintro e w12 ⟨rfl, hB12⟩
          have HB12 := Lib.hid (HB11.out.trans (hB12.mono HB11.out.size))
          clear hB12
          go_wp2
          go_ret
          exact ⟨rfl, HB12.out⟩
        · rw [if_pos hb] at hO
          obtain ⟨b, -, rfl, hblk⟩ := hO
          have hblk : Blk w9 b 64 #[.int .i64 (3 : Int), .iface 188 (.pointer (some (ads.getD 8 default)))] := hblk
          have hne := filled_of h0
          clear hb hN h0
          go_wp2_with fail
          refine HRn1.out.mono ?_
          rintro e w10 ⟨rfl, hB10⟩
          have HB10 := Lib.hid (HB9.out.trans (hB10.mono HB9.out.size))
          have HBk := Lib.hid (HB9.out.size)
          have HBl := Lib.hid (hblk.below hB10 hblk.lt)
          clear hblk
          clear hB10
          have HPl := Lib.hid (fun W => placed_any 109 3 W (by decide))
          go_wp2_with fail
          refine (HPl.out _).mono ?_
          rintro e w11 ⟨rfl, hB11⟩
          have HB11 := Lib.hid (HB10.out.trans (hB11.mono HB10.out.size))
          have HSm := Lib.hid (same_at7 w11 ads 8 b (ads.getD 8 default) 109 3 3 (HS.out.later HB11.out) HS.out.at8 (HBl.out.below hB11 HBl.out.lt) (by decide) rfl)
          clear hB11
          go_wp2_with fail
          refine HSm.out.mono ?_
          rintro e w12 ⟨rfl, hB12⟩
          have HB12 := Lib.hid (HB11.out.trans (hB12.mono HB11.out.size))
          clear hB12
          go_wp2
          go_ret
          exact ⟨rfl, HB12.out⟩
    · have hz8 : True := trivial
      have hR : Nms.Rows ⟨[102], [97], s.data.toList, [97], [120], [97], [[121]], [97]⟩ (W8.setCell ⟨w1.heap.size + 1, 1, none⟩ (.string s)) w1.heap.size (w1.heap.size + 6) := by
        have h := HR8.out
        exact ⟨h.i.far (by simp) _, h.o.set 1 _, h.c.far (by simp) _, h.l.far (by simp) _, h.n1.far (by simp) _, h.n2.far (by simp) _, h.q.far (by simp) _⟩
      have HBw : Hid (Below w.heap.size w (W8.setCell ⟨w1.heap.size + 1, 1, none⟩ (.string s))) := Lib.hid (HB8.out.setCell (by have := HB1.out.size; simp; omega) _)
      have HVd := Lib.hid (Nms.calls (⟨[102], [97], s.data.toList, [97], [120], [97], [[121]], [97]⟩ : Nms) w1.heap.size (w1.heap.size + 6) (W8.setCell ⟨w1.heap.size + 1, 1, none⟩ (.string s)) (fun k => ads.getD k default) (te_of (HS.out.later HBw.out)) hR (by simp) (by simp))
      have hbad : (⟨[102], [97], s.data.toList, [97], [120], [97], [[121]], [97]⟩ : Nms).bad = if badN s.data.toList = true then some (some 4, 8) else none := by
        unfold Nms.bad
        simp [badN_a, badN_x, badN_f, badN_y]
      rw [hbad] at HVd
      clear hbad hR
      unfold Ng.val Nms.ng at HVd
      go_wp2_with fail
      refine HVd.out.mono ?_
      rintro e w9 ⟨hB9, hO⟩
      have HB9 := Lib.hid (HBw.out.trans (hB9.mono HBw.out.size))
      clear hB9 HVd
      cases hb : badN s.data.toList
      · have hN : nameB s = true := by have := HNB.out; rw [hb] at this; simpa using this.symm
        rw [if_neg (by simp [hb])] at hO
        obtain rfl : e = .returned .nilIface := hO
        have HRn1 := Lib.hid (HRn.out w9)
        rw [hN] at HRn1
        clear hb hN
        go_wp2_with fail
        refine HRn1.out.mono ?_
        rintro e w10 ⟨rfl, hB10⟩
        have HB10 := Lib.hid (HB9.out.trans (hB10.mono HB9.out.size))
        clear hB10
        go_wp2
        go_ret
        exact ⟨rfl, HB10.out⟩
      · have hN : nameB s = false := by have := HNB.out; rw [hb] at this; simpa using this.symm
        have HRn1 := Lib.hid (HRn.out w9)
        rw [hN] at HRn1
        by_cases h0 : s.size = 0
        · rw [if_pos hb] at hO
          obtain ⟨b, -, rfl, hblk⟩ := hO
          have hblk : Blk w9 b 64 #[.int .i64 (4 : Int), .iface 188 (.pointer (some (ads.getD 8 default)))] := hblk
          have hs0 := empty_of h0
          clear hb hN h0
          subst hs0
          go_wp2_with fail
          refine HRn1.out.mono ?_
          rintro e w10 ⟨rfl, hB10⟩
          have HB10 := Lib.hid (HB9.out.trans (hB10.mono HB9.out.size))
          have HBk := Lib.hid (HB9.out.size)
          have HBl := Lib.hid (hblk.below hB10 hblk.lt)
          clear hblk
          clear hB10
          go_wp2_with fail
          refine (HN1.out _).mono ?_
          rintro e w10' ⟨rfl, rfl⟩
          have HPl := Lib.hid (fun W => placed_any 109 4 W (by decide))
          go_wp2_with fail
          refine (HPl.out _).mono ?_
          rintro e w11 ⟨rfl, hB11⟩
          have HB11 := Lib.hid (HB10.out.trans (hB11.mono HB10.out.size))
          have HSm := Lib.hid (same_at7 w11 ads 8 b (ads.getD 8 default) 109 4 4 (HS.out.later HB11.out) HS.out.at8 (HBl.out.below hB11 HBl.out.lt) (by decide) rfl)
          clear hB11
          go_wp2_with fail
          refine HSm.out.mono ?_
          rintro e w12 ⟨rfl, hB12⟩
          have HB12 := Lib.hid (HB11.out.trans (hB12.mono HB11.out.size))
          clear hB12
          go_wp2
          go_ret
          exact ⟨rfl, HB12.out⟩
        · rw [if_pos hb] at hO
          obtain ⟨b, -, rfl, hblk⟩ := hO
          have hblk : Blk w9 b 64 #[.int .i64 (4 : Int), .iface 188 (.pointer (some (ads.getD 8 default)))] := hblk
          have hne := filled_of h0
          clear hb hN h0
          go_wp2_with fail
          refine HRn1.out.mono ?_
          rintro e w10 ⟨rfl, hB10⟩
          have HB10 := Lib.hid (HB9.out.trans (hB10.mono HB9.out.size))
          have HBk := Lib.hid (HB9.out.size)
          have HBl := Lib.hid (hblk.below hB10 hblk.lt)
          clear hblk
          clear hB10
          have HPl := Lib.hid (fun W => placed_any 109 4 W (by decide))
          go_wp2_with fail
          refine (HPl.out _).mono ?_
          rintro e w11 ⟨rfl, hB11⟩
          have HB11 := Lib.hid (HB10.out.trans (hB11.mono HB10.out.size))
          have HSm := Lib.hid (same_at7 w11 ads 8 b (ads.getD 8 default) 109 4 4 (HS.out.later HB11.out) HS.out.at8 (HBl.out.below hB11 HBl.out.lt) (by decide) rfl)
          clear hB11
          go_wp2_with fail
          refine HSm.out.mono ?_
          rintro e w12 ⟨rfl, hB12⟩
          have HB12 := Lib.hid (HB11.out.trans (hB12.mono HB11.out.size))
          clear hB12
          go_wp2
          go_ret
          exact ⟨rfl, HB12.out⟩
    · have hz8 : True := trivial
      have hR : Nms.Rows ⟨[102], [97], [120], s.data.toList, [120], [97], [[121]], [97]⟩ (W8.setCell ⟨w1.heap.size + 2, 0, none⟩ (.string s)) w1.heap.size (w1.heap.size + 6) := by
        have h := HR8.out
        exact ⟨h.i.far (by simp) _, h.o.far (by simp) _, h.c.set 0 _, h.l.far (by simp) _, h.n1.far (by simp) _, h.n2.far (by simp) _, h.q.far (by simp) _⟩
      have HBw : Hid (Below w.heap.size w (W8.setCell ⟨w1.heap.size + 2, 0, none⟩ (.string s))) := Lib.hid (HB8.out.setCell (by have := HB1.out.size; simp; omega) _)
      have HVd := Lib.hid (Nms.calls (⟨[102], [97], [120], s.data.toList, [120], [97], [[121]], [97]⟩ : Nms) w1.heap.size (w1.heap.size + 6) (W8.setCell ⟨w1.heap.size + 2, 0, none⟩ (.string s)) (fun k => ads.getD k default) (te_of (HS.out.later HBw.out)) hR (by simp) (by simp))
      have hbad : (⟨[102], [97], [120], s.data.toList, [120], [97], [[121]], [97]⟩ : Nms).bad = if badN s.data.toList = true then some (some 5, 8) else none := by
        unfold Nms.bad
        simp [badN_a, badN_x, badN_f, badN_y]
      rw [hbad] at HVd
      clear hbad hR
      unfold Ng.val Nms.ng at HVd
      go_wp2_with fail
      refine HVd.out.mono ?_
      rintro e w9 ⟨hB9, hO⟩
      have HB9 := Lib.hid (HBw.out.trans (hB9.mono HBw.out.size))
      clear hB9 HVd
      cases hb : badN s.data.toList
      · have hN : nameB s = true := by have := HNB.out; rw [hb] at this; simpa using this.symm
        rw [if_neg (by simp [hb])] at hO
        obtain rfl : e = .returned .nilIface := hO
        have HRn1 := Lib.hid (HRn.out w9)
        rw [hN] at HRn1
        clear hb hN
        go_wp2_with fail
        refine HRn1.out.mono ?_
        rintro e w10 ⟨rfl, hB10⟩
        have HB10 := Lib.hid (HB9.out.trans (hB10.mono HB9.out.size))
        clear hB10
        go_wp2
        go_ret
        exact ⟨rfl, HB10.out⟩
      · have hN : nameB s = false := by have := HNB.out; rw [hb] at this; simpa using this.symm
        have HRn1 := Lib.hid (HRn.out w9)
        rw [hN] at HRn1
        by_cases h0 : s.size = 0
        · rw [if_pos hb] at hO
          obtain ⟨b, -, rfl, hblk⟩ := hO
          have hblk : Blk w9 b 64 #[.int .i64 (5 : Int), .iface 188 (.pointer (some (ads.getD 8 default)))] := hblk
          have hs0 := empty_of h0
          clear hb hN h0
          subst hs0
          go_wp2_with fail
          refine HRn1.out.mono ?_
          rintro e w10 ⟨rfl, hB10⟩
          have HB10 := Lib.hid (HB9.out.trans (hB10.mono HB9.out.size))
          have HBk := Lib.hid (HB9.out.size)
          have HBl := Lib.hid (hblk.below hB10 hblk.lt)
          clear hblk
          clear hB10
          go_wp2_with fail
          refine (HN1.out _).mono ?_
          rintro e w10' ⟨rfl, rfl⟩
          have HPl := Lib.hid (fun W => placed_any 109 5 W (by decide))
          go_wp2_with fail
          refine (HPl.out _).mono ?_
          rintro e w11 ⟨rfl, hB11⟩
          have HB11 := Lib.hid (HB10.out.trans (hB11.mono HB10.out.size))
          have HSm := Lib.hid (same_at7 w11 ads 8 b (ads.getD 8 default) 109 5 5 (HS.out.later HB11.out) HS.out.at8 (HBl.out.below hB11 HBl.out.lt) (by decide) rfl)
          clear hB11
          go_wp2_with fail
          refine HSm.out.mono ?_
          rintro e w12 ⟨rfl, hB12⟩
          have HB12 := Lib.hid (HB11.out.trans (hB12.mono HB11.out.size))
          clear hB12
          go_wp2
          go_ret
          exact ⟨rfl, HB12.out⟩
        · rw [if_pos hb] at hO
          obtain ⟨b, -, rfl, hblk⟩ := hO
          have hblk : Blk w9 b 64 #[.int .i64 (5 : Int), .iface 188 (.pointer (some (ads.getD 8 default)))] := hblk
          have hne := filled_of h0
          clear hb hN h0
          go_wp2_with fail
          refine HRn1.out.mono ?_
          rintro e w10 ⟨rfl, hB10⟩
          have HB10 := Lib.hid (HB9.out.trans (hB10.mono HB9.out.size))
          have HBk := Lib.hid (HB9.out.size)
          have HBl := Lib.hid (hblk.below hB10 hblk.lt)
          clear hblk
          clear hB10
          have HPl := Lib.hid (fun W => placed_any 109 5 W (by decide))
          go_wp2_with fail
          refine (HPl.out _).mono ?_
          rintro e w11 ⟨rfl, hB11⟩
          have HB11 := Lib.hid (HB10.out.trans (hB11.mono HB10.out.size))
          have HSm := Lib.hid (same_at7 w11 ads 8 b (ads.getD 8 default) 109 5 5 (HS.out.later HB11.out) HS.out.at8 (HBl.out.below hB11 HBl.out.lt) (by decide) rfl)
          clear hB11
          go_wp2_with fail
          refine HSm.out.mono ?_
          rintro e w12 ⟨rfl, hB12⟩
          have HB12 := Lib.hid (HB11.out.trans (hB12.mono HB11.out.size))
          clear hB12
          go_wp2
          go_ret
          exact ⟨rfl, HB12.out⟩
    · have hz8 : True := trivial
      have hR : Nms.Rows ⟨[102], [97], [120], [97], s.data.toList, [97], [[121]], [97]⟩ (W8.setCell ⟨w1.heap.size + 5, 0, none⟩ (.string s)) w1.heap.size (w1.heap.size + 6) := by
        have h := HR8.out
        exact ⟨h.i.far (by simp) _, h.o.far (by simp) _, h.c.far (by simp) _, h.l.far (by simp) _, h.n1.set 0 _, h.n2.far (by simp) _, h.q.far (by simp) _⟩
      have HBw : Hid (Below w.heap.size w (W8.setCell ⟨w1.heap.size + 5, 0, none⟩ (.string s))) := Lib.hid (HB8.out.setCell (by have := HB1.out.size; simp; omega) _)
      have HVd := Lib.hid (Nms.calls (⟨[102], [97], [120], [97], s.data.toList, [97], [[121]], [97]⟩ : Nms) w1.heap.size (w1.heap.size + 6) (W8.setCell ⟨w1.heap.size + 5, 0, none⟩ (.string s)) (fun k => ads.getD k default) (te_of (HS.out.later HBw.out)) hR (by simp) (by simp))
      have hbad : (⟨[102], [97], [120], [97], s.data.toList, [97], [[121]], [97]⟩ : Nms).bad = if badN s.data.toList = true then some (some 6, 8) else none := by
        unfold Nms.bad
        simp [badN_a, badN_x, badN_f, badN_y]
      rw [hbad] at HVd
      clear hbad hR
      unfold Ng.val Nms.ng at HVd
      go_wp2_with fail
      refine HVd.out.mono ?_
      rintro e w9 ⟨hB9, hO⟩
      have HB9 := Lib.hid (HBw.out.trans (hB9.mono HBw.out.size))
      clear hB9 HVd
      cases hb : badN s.data.toList
      · have hN : nameB s = true := by have := HNB.out; rw [hb] at this; simpa using this.symm
        rw [if_neg (by simp [hb])] at hO
        obtain rfl : e = .returned .nilIface := hO
        have HRn1 := Lib.hid (HRn.out w9)
        rw [hN] at HRn1
        clear hb hN
        go_wp2_with fail
        refine HRn1.out.mono ?_
        rintro e w10 ⟨rfl, hB10⟩
        have HB10 := Lib.hid (HB9.out.trans (hB10.mono HB9.out.size))
        clear hB10
        go_wp2
        go_ret
        exact ⟨rfl, HB10.out⟩
      · have hN : nameB s = false := by have := HNB.out; rw [hb] at this; simpa using this.symm
        have HRn1 := Lib.hid (HRn.out w9)
        rw [hN] at HRn1
        by_cases h0 : s.size = 0
        · rw [if_pos hb] at hO
          obtain ⟨b, -, rfl, hblk⟩ := hO
          have hblk : Blk w9 b 64 #[.int .i64 (6 : Int), .iface 188 (.pointer (some (ads.getD 8 default)))] := hblk
          have hs0 := empty_of h0
          clear hb hN h0
          subst hs0
          go_wp2_with fail
          refine HRn1.out.mono ?_
          rintro e w10 ⟨rfl, hB10⟩
          have HB10 := Lib.hid (HB9.out.trans (hB10.mono HB9.out.size))
          have HBk := Lib.hid (HB9.out.size)
          have HBl := Lib.hid (hblk.below hB10 hblk.lt)
          clear hblk
          clear hB10
          go_wp2_with fail
          refine (HN1.out _).mono ?_
          rintro e w10' ⟨rfl, rfl⟩
          have HPl := Lib.hid (fun W => placed_any 109 6 W (by decide))
          go_wp2_with fail
          refine (HPl.out _).mono ?_
          rintro e w11 ⟨rfl, hB11⟩
          have HB11 := Lib.hid (HB10.out.trans (hB11.mono HB10.out.size))
          have HSm := Lib.hid (same_at7 w11 ads 8 b (ads.getD 8 default) 109 6 6 (HS.out.later HB11.out) HS.out.at8 (HBl.out.below hB11 HBl.out.lt) (by decide) rfl)
          clear hB11
          go_wp2_with fail
          refine HSm.out.mono ?_
          rintro e w12 ⟨rfl, hB12⟩
          have HB12 := Lib.hid (HB11.out.trans (hB12.mono HB11.out.size))
          clear hB12
          go_wp2
          go_ret
          exact ⟨rfl, HB12.out⟩
        · rw [if_pos hb] at hO
          obtain ⟨b, -, rfl, hblk⟩ := hO
          have hblk : Blk w9 b 64 #[.int .i64 (6 : Int), .iface 188 (.pointer (some (ads.getD 8 default)))] := hblk
          have hne := filled_of h0
          clear hb hN h0
          go_wp2_with fail
          refine HRn1.out.mono ?_
          rintro e w10 ⟨rfl, hB10⟩
          have HB10 := Lib.hid (HB9.out.trans (hB10.mono HB9.out.size))
          have HBk := Lib.hid (HB9.out.size)
          have HBl := Lib.hid (hblk.below hB10 hblk.lt)
          clear hblk
          clear hB10
          have HPl := Lib.hid (fun W => placed_any 109 6 W (by decide))
          go_wp2_with fail
          refine (HPl.out _).mono ?_
          rintro e w11 ⟨rfl, hB11⟩
          have HB11 := Lib.hid (HB10.out.trans (hB11.mono HB10.out.size))
          have HSm := Lib.hid (same_at7 w11 ads 8 b (ads.getD 8 default) 109 6 6 (HS.out.later HB11.out) HS.out.at8 (HBl.out.below hB11 HBl.out.lt) (by decide) rfl)
          clear hB11
          go_wp2_with fail
          refine HSm.out.mono ?_
          rintro e w12 ⟨rfl, hB12⟩
          have HB12 := Lib.hid (HB11.out.trans (hB12.mono HB11.out.size))
          clear hB12
          go_wp2
          go_ret
          exact ⟨rfl, HB12.out⟩
    · have hz8 : True := trivial
      have hR : Nms.Rows ⟨[102], [97], [120], [97], [120], s.data.toList, [[121]], [97]⟩ (W8.setCell ⟨w1.heap.size + 7, 5, none⟩ (.string s)) w1.heap.size (w1.heap.size + 6) := by
        have h := HR8.out
        exact ⟨h.i.far (by simp) _, h.o.far (by simp) _, h.c.far (by simp) _, h.l.far (by simp) _, h.n1.far (by simp) _, h.n2.far (by simp) _, h.q.set 5 _⟩
      have HBw : Hid (Below w.heap.size w (W8.setCell ⟨w1.heap.size + 7, 5, none⟩ (.string s))) := Lib.hid (HB8.out.setCell (by have := HB1.out.size; simp; omega) _)
      have HVd := Lib.hid (Nms.calls (⟨[102], [97], [120], [97], [120], s.data.toList, [[121]], [97]⟩ : Nms) w1.heap.size (w1.heap.size + 6) (W8.setCell ⟨w1.heap.size + 7, 5, none⟩ (.string s)) (fun k => ads.getD k default) (te_of (HS.out.later HBw.out)) hR (by simp) (by simp))
      have hbad : (⟨[102], [97], [120], [97], [120], s.data.toList, [[121]], [97]⟩ : Nms).bad = if badN s.data.toList = true then some (some 7, 8) else none := by
        unfold Nms.bad
        simp [badN_a, badN_x, badN_f, badN_y]
      rw [hbad] at HVd
      clear hbad hR
      unfold Ng.val Nms.ng at HVd
      go_wp2_with fail
      refine HVd.out.mono ?_
      rintro e w9 ⟨hB9, hO⟩
      have HB9 := Lib.hid (HBw.out.trans (hB9.mono HBw.out.size))
      clear hB9 HVd
      cases hb : badN s.data.toList
      · have hN : nameB s = true := by have := HNB.out; rw [hb] at this; simpa using this.symm
        rw [if_neg (by simp [hb])] at hO
        obtain rfl : e = .returned .nilIface := hO
        have HRn1 := Lib.hid (HRn.out w9)
        rw [hN] at HRn1
        clear hb hN
        go_wp2_with fail
        refine HRn1.out.mono ?_
        rintro e w10 ⟨rfl, hB10⟩
        have HB10 := Lib.hid (HB9.out.trans (hB10.mono HB9.out.size))
        clear hB10
        go_wp2
        go_ret
        exact ⟨rfl, HB10.out⟩
      · have hN : nameB s = false := by have := HNB.out; rw [hb] at this; simpa using this.symm
        have HRn1 := Lib.hid (HRn.out w9)
        rw [hN] at HRn1
        by_cases h0 : s.size = 0
        · rw [if_pos hb] at hO
          obtain ⟨b, -, rfl, hblk⟩ := hO
          have hblk : Blk w9 b 64 #[.int .i64 (7 : Int), .iface 188 (.pointer (some (ads.getD 8 default)))] := hblk
          have hs0 := empty_of h0
          clear hb hN h0
          subst hs0
          go_wp2_with fail
          refine HRn1.out.mono ?_
          rintro e w10 ⟨rfl, hB10⟩
          have HB10 := Lib.hid (HB9.out.trans (hB10.mono HB9.out.size))
          have HBk := Lib.hid (HB9.out.size)
          have HBl := Lib.hid (hblk.below hB10 hblk.lt)
          clear hblk
          clear hB10
          go_wp2_with fail
          refine (HN1.out _).mono ?_
          rintro e w10' ⟨rfl, rfl⟩
          have HPl := Lib.hid (fun W => placed_any 109 7 W (by decide))
          go_wp2_with fail
          refine (HPl.out _).mono ?_
          rintro e w11 ⟨rfl, hB11⟩
          have HB11 := Lib.hid (HB10.out.trans (hB11.mono HB10.out.size))
          have HSm := Lib.hid (same_at7 w11 ads 8 b (ads.getD 8 default) 109 7 7 (HS.out.later HB11.out) HS.out.at8 (HBl.out.below hB11 HBl.out.lt) (by decide) rfl)
          clear hB11
          go_wp2_with fail
          refine HSm.out.mono ?_
          rintro e w12 ⟨rfl, hB12⟩
          have HB12 := Lib.hid (HB11.out.trans (hB12.mono HB11.out.size))
          clear hB12
          go_wp2
          go_ret
          exact ⟨rfl, HB12.out⟩
        · rw [if_pos hb] at hO
          obtain ⟨b, -, rfl, hblk⟩ := hO
          have hblk : Blk w9 b 64 #[.int .i64 (7 : Int), .iface 188 (.pointer (some (ads.getD 8 default)))] := hblk
          have hne := filled_of h0
          clear hb hN h0
          go_wp2_with fail
          refine HRn1.out.mono ?_
          rintro e w10 ⟨rfl, hB10⟩
          have HB10 := Lib.hid (HB9.out.trans (hB10.mono HB9.out.size))
          have HBk := Lib.hid (HB9.out.size)
          have HBl := Lib.hid (hblk.below hB10 hblk.lt)
          clear hblk
          clear hB10
          have HPl := Lib.hid (fun W => placed_any 109 7 W (by decide))
          go_wp2_with fail
          refine (HPl.out _).mono ?_
          rintro e w11 ⟨rfl, hB11⟩
          have HB11 := Lib.hid (HB10.out.trans (hB11.mono HB10.out.size))
          have HSm := Lib.hid (same_at7 w11 ads 8 b (ads.getD 8 default) 109 7 7 (HS.out.later HB11.out) HS.out.at8 (HBl.out.below hB11 HBl.out.lt) (by decide) rfl)
          clear hB11
          go_wp2_with fail
          refine HSm.out.mono ?_
          rintro e w12 ⟨rfl, hB12⟩
          have HB12 := Lib.hid (HB11.out.trans (hB12.mono HB11.out.size))
          clear hB12
          go_wp2
          go_ret
          exact ⟨rfl, HB12.out⟩
    · have hz8 : w1.heap.size + 8 ≤ W8.heap.size := by have := HR8.out.q.lt; omega
      have hR : Nms.Rows ⟨[102], [97], [120], [97], [120], [97], [[121], s.data.toList], [97]⟩ ((W8.alloc (.cells #[.string { data := #[121] }, .string s] 9)).setCell ⟨w1.heap.size + 7, 11, none⟩ (.slice (some ⟨W8.heap.size, 0, none⟩) 2 2)) w1.heap.size W8.heap.size := by
        have h := HR8.out
        exact ⟨(h.i.alloc _).far (by simp) _, (h.o.alloc _).far (by simp) _, (h.c.alloc _).far (by simp) _, (h.l.alloc _).far (by simp) _, (h.n1.alloc _).far (by simp) _, (blk_news rfl).far (by simp; omega) _, (h.q.alloc _).set 11 _⟩
      have HBw : Hid (Below w.heap.size w ((W8.alloc (.cells #[.string { data := #[121] }, .string s] 9)).setCell ⟨w1.heap.size + 7, 11, none⟩ (.slice (some ⟨W8.heap.size, 0, none⟩) 2 2))) := Lib.hid ((HB8.out.alloc HB8.out.size _).setCell (by have := HB1.out.size; simp; omega) _)
      have HVd := Lib.hid (Nms.calls (⟨[102], [97], [120], [97], [120], [97], [[121], s.data.toList], [97]⟩ : Nms) w1.heap.size W8.heap.size ((W8.alloc (.cells #[.string { data := #[121] }, .string s] 9)).setCell ⟨w1.heap.size + 7, 11, none⟩ (.slice (some ⟨W8.heap.size, 0, none⟩) 2 2)) (fun k => ads.getD k default) (te_of (HS.out.later HBw.out)) hR (by simp) (by simp))
      have hbad : (⟨[102], [97], [120], [97], [120], [97], [[121], s.data.toList], [97]⟩ : Nms).bad = if badN s.data.toList = true then some (some 8, 8) else none := by
        unfold Nms.bad
        simp [badN_a, badN_x, badN_f, badN_y]
      rw [hbad] at HVd
      clear hbad hR
      unfold Ng.val Nms.ng at HVd
      obtain ⟨⟨m0, m1, m2, m3, m4⟩, -⟩ := blkx (Hn8.out.alloc (.cells #[.string { data := #[121] }, .string s] 9))
      go_wp2_with fail
      refine HVd.out.mono ?_
      rintro e w9 ⟨hB9, hO⟩
      have HB9 := Lib.hid (HBw.out.trans (hB9.mono HBw.out.size))
      clear hB9 HVd
      cases hb : badN s.data.toList
      · have hN : nameB s = true := by have := HNB.out; rw [hb] at this; simpa using this.symm
        rw [if_neg (by simp [hb])] at hO
        obtain rfl : e = .returned .nilIface := hO
        have HRn1 := Lib.hid (HRn.out w9)
        rw [hN] at HRn1
        clear hb hN
        go_wp2_with fail
        refine HRn1.out.mono ?_
        rintro e w10 ⟨rfl, hB10⟩
        have HB10 := Lib.hid (HB9.out.trans (hB10.mono HB9.out.size))
        clear hB10
        go_wp2
        go_ret
        exact ⟨rfl, HB10.out⟩
      · have hN : nameB s = false := by have := HNB.out; rw [hb] at this; simpa using this.symm
        have HRn1 := Lib.hid (HRn.out w9)
        rw [hN] at HRn1
        by_cases h0 : s.size = 0
        · rw [if_pos hb] at hO
          obtain ⟨b, -, rfl, hblk⟩ := hO
          have hblk : Blk w9 b 64 #[.int .i64 (8 : Int), .iface 188 (.pointer (some (ads.getD 8 default)))] := hblk
          have hs0 := empty_of h0
          clear hb hN h0
          subst hs0
          go_wp2_with fail
          refine HRn1.out.mono ?_
          rintro e w10 ⟨rfl, hB10⟩
          have HB10 := Lib.hid (HB9.out.trans (hB10.mono HB9.out.size))
          have HBk := Lib.hid (HB9.out.size)
          have HBl := Lib.hid (hblk.below hB10 hblk.lt)
          clear hblk
          clear hB10
          go_wp2_with fail
          refine (HN1.out _).mono ?_
          rintro e w10' ⟨rfl, rfl⟩
          have HPl := Lib.hid (fun W => placed_any 109 8 W (by decide))
          go_wp2_with fail
          refine (HPl.out _).mono ?_
          rintro e w11 ⟨rfl, hB11⟩
          have HB11 := Lib.hid (HB10.out.trans (hB11.mono HB10.out.size))
          have HSm := Lib.hid (same_at7 w11 ads 8 b (ads.getD 8 default) 109 8 8 (HS.out.later HB11.out) HS.out.at8 (HBl.out.below hB11 HBl.out.lt) (by decide) rfl)
          clear hB11
          go_wp2_with fail
          refine HSm.out.mono ?_
          rintro e w12 ⟨rfl, hB12⟩
          have HB12 := Lib.hid (HB11.out.trans (hB12.mono HB11.out.size))
          clear hB12
          go_wp2
          go_ret
          exact ⟨rfl, HB12.out⟩
        · rw [if_pos hb] at hO
          obtain ⟨b, -, rfl, hblk⟩ := hO
          have hblk : Blk w9 b 64 #[.int .i64 (8 : Int), .iface 188 (.pointer (some (ads.getD 8 default)))] := hblk
          have hne := filled_of h0
          clear hb hN h0
          go_wp2_with fail
          refine HRn1.out.mono ?_
          rintro e w10 ⟨rfl, hB10⟩
          have HB10 := Lib.hid (HB9.out.trans (hB10.mono HB9.out.size))
          have HBk := Lib.hid (HB9.out.size)
          have HBl := Lib.hid (hblk.below hB10 hblk.lt)
          clear hblk
          clear hB10
          have HPl := Lib.hid (fun W => placed_any 109 8 W (by decide))
          go_wp2_with fail
          refine (HPl.out _).mono ?_
          rintro e w11 ⟨rfl, hB11⟩
          have HB11 := Lib.hid (HB10.out.trans (hB11.mono HB10.out.size))
          have HSm := Lib.hid (same_at7 w11 ads 8 b (ads.getD 8 default) 109 8 8 (HS.out.later HB11.out) HS.out.at8 (HBl.out.below hB11 HBl.out.lt) (by decide) rfl)
          clear hB11
          go_wp2_with fail
          refine HSm.out.mono ?_
          rintro e w12 ⟨rfl, hB12⟩
          have HB12 := Lib.hid (HB11.out.trans (hB12.mono HB11.out.size))
          clear hB12
          go_wp2
          go_ret
          exact ⟨rfl, HB12.out⟩
    · have hz8 : True := trivial
      have hR : Nms.Rows ⟨[102], [97], [120], [97], [120], [97], [[121]], s.data.toList⟩ (W8.setCell ⟨w1.heap.size + 7, 19, none⟩ (.string s)) w1.heap.size (w1.heap.size + 6) := by
        have h := HR8.out
        exact ⟨h.i.far (by simp) _, h.o.far (by simp) _, h.c.far (by simp) _, h.l.far (by simp) _, h.n1.far (by simp) _, h.n2.far (by simp) _, h.q.set 19 _⟩
      have HBw : Hid (Below w.heap.size w (W8.setCell ⟨w1.heap.size + 7, 19, none⟩ (.string s))) := Lib.hid (HB8.out.setCell (by have := HB1.out.size; simp; omega) _)
      have HVd := Lib.hid (Nms.calls (⟨[102], [97], [120], [97], [120], [97], [[121]], s.data.toList⟩ : Nms) w1.heap.size (w1.heap.size + 6) (W8.setCell ⟨w1.heap.size + 7, 19, none⟩ (.string s)) (fun k => ads.getD k default) (te_of (HS.out.later HBw.out)) hR (by simp) (by simp))
      have hbad : (⟨[102], [97], [120], [97], [120], [97], [[121]], s.data.toList⟩ : Nms).bad = if s.data.toList ≠ [] ∧ badN s.data.toList = true then some (some 8, 8) else none := by
        unfold Nms.bad
        simp [badN_a, badN_x, badN_f, badN_y]
      rw [hbad] at HVd
      clear hbad hR
      unfold Ng.val Nms.ng at HVd
      go_wp2_with fail
      refine HVd.out.mono ?_
      rintro e w9 ⟨hB9, hO⟩
      have HB9 := Lib.hid (HBw.out.trans (hB9.mono HBw.out.size))
      clear hB9 HVd
      cases hb : badN s.data.toList
      · have hN : nameB s = true := by have := HNB.out; rw [hb] at this; simpa using this.symm
        rw [if_neg (by simp [hb])] at hO
        obtain rfl : e = .returned .nilIface := hO
        have HRn1 := Lib.hid (HRn.out w9)
        rw [hN] at HRn1
        clear hb hN
        go_wp2_with fail
        refine HRn1.out.mono ?_
        rintro e w10 ⟨rfl, hB10⟩
        have HB10 := Lib.hid (HB9.out.trans (hB10.mono HB9.out.size))
        clear hB10
        go_wp2
        go_ret
        exact ⟨rfl, HB10.out⟩
      · have hN : nameB s = false := by have := HNB.out; rw [hb] at this; simpa using this.symm
        have HRn1 := Lib.hid (HRn.out w9)
        rw [hN] at HRn1
        by_cases h0 : s.size = 0
        · have hs0 := empty_of h0
          rw [if_neg (by rw [hs0]; simp)] at hO
          obtain rfl : e = .returned .nilIface := hO
          clear hb hN h0
          subst hs0
          go_wp2_with fail
          refine HRn1.out.mono ?_
          rintro e w10 ⟨rfl, hB10⟩
          have HB10 := Lib.hid (HB9.out.trans (hB10.mono HB9.out.size))
          clear hB10
          go_wp2_with fail
          refine (HN1.out _).mono ?_
          rintro e w10' ⟨rfl, rfl⟩
          go_wp2
          go_ret
          exact ⟨rfl, HB10.out⟩
        · rw [if_pos ⟨fun e => h0 (by have := congrArg List.length e; simpa using this), hb⟩] at hO
          obtain ⟨b, -, rfl, hblk⟩ := hO
          have hblk : Blk w9 b 64 #[.int .i64 (8 : Int), .iface 188 (.pointer (some (ads.getD 8 default)))] := hblk
          have hne := filled_of h0
          clear hb hN h0
          go_wp2_with fail
          refine HRn1.out.mono ?_
          rintro e w10 ⟨rfl, hB10⟩
          have HB10 := Lib.hid (HB9.out.trans (hB10.mono HB9.out.size))
          have HBk := Lib.hid (HB9.out.size)
          have HBl := Lib.hid (hblk.below hB10 hblk.lt)
          clear hblk
          clear hB10
          have HPl := Lib.hid (fun W => placed_any 109 8 W (by decide))
          go_wp2_with fail
          refine (HPl.out _).mono ?_
          rintro e w11 ⟨rfl, hB11⟩
          have HB11 := Lib.hid (HB10.out.trans (hB11.mono HB10.out.size))
          have HSm := Lib.hid (same_at7 w11 ads 8 b (ads.getD 8 default) 109 8 8 (HS.out.later HB11.out) HS.out.at8 (HBl.out.below hB11 HBl.out.lt) (by decide) rfl)
          clear hB11
          go_wp2_with fail
          refine HSm.out.mono ?_
          rintro e w12 ⟨rfl, hB12⟩
          have HB12 := Lib.hid (HB11.out.trans (hB12.mono HB11.out.size))
          clear hB12
          go_wp2
          go_ret
          exact ⟨rfl, HB12.out⟩
end Go.Proofs.YtacmibkcnmaagaaDoor
