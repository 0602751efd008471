/-
  The walk of the law TreeBounds. Conditions: the theorem's own premises.
-/
import Derived.Test.YtacmibkcnmaagaaDoorQTvL
import Derived.Test.YtacmibkcnmaagaaDoorQTbA
import Derived.Test.YtacmibkcnmaagaaDoorQTbFr
import Derived.Test.YtacmibkcnmaagaaDoorQDkSee
import Derived.Test.YtacmibkcnmaagaaDoorQNumb
import Derived.Test.YtacmibkcnmaagaaDoorQTbB
import Derived.Deep.RegionLaw
namespace Go.Proofs.YtacmibkcnmaagaaDoor
open Go.RowKit Go.Lib
attribute [local go_sem] Oper.semAt_some

theorem te_of7 {w : World} {ads : List Addr} (h : Sents w ads) : Te w (fun k => ads.getD k default) := ⟨cellOf h 1 _ rfl, cellOf h 2 _ rfl, cellOf h 7 _ rfl, cellOf h 8 _ rfl⟩
theorem Sents.get7 {w : World} {ads : List Addr} (h : Sents w ads) (i : Nat) (hi : i < 21) : ads[i]? = some (ads.getD i default) := by
  have hl : i < ads.length := by rw [h.len]; exact hi
  simp [List.getD, List.getElem?_eq_getElem hl]

set_option maxRecDepth 100000 in
set_option maxHeartbeats 1200000 in
theorem treeBounds_walk (a0 a1 a2 : Int) (w : World) (_ : (Lit.int .i64 a0).wf = true) (_ : (Lit.int .i64 a1).wf = true) (_ : (Lit.int .i64 a2).wf = true) (hL : laidMetH Tryd.prog laid24 w) : Calls Tryd.prog 3 #[.int .i64 a0, .int .i64 a1, .int .i64 a2] w (RetYes w) := by
  obtain ⟨ads, hS, hT⟩ := all_of hL
  have HSn := Lib.hid hS
  have HT := Lib.hid hT
  have HF := Lib.hid (first_any w)
  have HN1 := Lib.hid (fun W => number_any a0 40 W (by omega) (by omega))
  have HN2 := Lib.hid (fun W => number_any a1 30 W (by omega) (by omega))
  have HN3 := Lib.hid (fun W => number_any a2 300 W (by omega) (by omega))
  obtain ⟨V, hV⟩ : ∃ V : Nat, a0 % 40 = (V : Int) := ⟨(a0 % 40).toNat, by omega⟩
  obtain ⟨D, hD⟩ : ∃ D : Nat, a1 % 30 = (D : Int) := ⟨(a1 % 30).toNat, by omega⟩
  obtain ⟨M, hM⟩ : ∃ M : Nat, a2 % 300 = (M : Int) := ⟨(a2 % 300).toNat, by omega⟩
  have hV2 : V < 40 := by omega
  have hD2 : D < 30 := by omega
  have hM2 : M < 300 := by omega
  rw [hV] at HN1
  rw [hD] at HN2
  rw [hM] at HN3
  clear hV hD hM hL hS hT
  go_enter Tryd.func3, Tryd.ntmps3
  go_wp2_with fail
  refine HF.out.mono ?_
  rintro e w1 ⟨rfl, hB⟩
  have HB1 := Lib.hid hB
  clear hB HF
  go_wp2_with fail
  refine (HN1.out _).mono ?_
  rintro e w1' ⟨rfl, rfl⟩
  go_wp2_with fail
  refine (HN2.out _).mono ?_
  rintro e w1' ⟨rfl, rfl⟩
  go_wp2_with fail
  refine (HN3.out _).mono ?_
  rintro e w1' ⟨rfl, rfl⟩
  clear HN1 HN2 HN3
  go_wp2_with fail
  have hS0 := BdM.start HB1.out
  obtain ⟨B, hBd⟩ : ∃ B, B = w1.heap.size := ⟨_, rfl⟩
  obtain ⟨W2, hW2⟩ : ∃ W2, W2 = ((w1.alloc (.cells #[.int .i64 0, .string { data := #[120] }, .int .i64 1, .slice none 0 0] 26)).alloc (.cells #[.string { data := #[102] }, .slice none 0 0, .slice (some ⟨w1.heap.size, 0, none⟩) 1 1, .slice none 0 0, .slice none 0 0] 30)) := ⟨_, rfl⟩
  rw [← hW2, ← hBd] at hS0
  rw [← hW2, ← hBd]
  have HS0 := Lib.hid hS0
  clear hW2 hBd HB1 hS0
  go_loopw [9] (fun i wr => ∃ (k : Nat) (A : Option Addr) (c : Nat), k ≤ V ∧ i = .int .i64 (k : Int) ∧ BdM w wr B k A c) (fun i _ => V - (RowKit.intOf i).toNat)
  case atStart => exact ⟨0, none, 0, Nat.zero_le _, rfl, HS0.out⟩
  case round =>
    obtain ⟨j, A, c, hk, rfl, hS⟩ := hrel
    by_cases hp : j < V
    · have HS := Lib.hid hS
      have HTb := Lib.hid (HT.out.below hS.bel)
      have k3 : wr.cell? ⟨B + 1, 1, none⟩ = some (.slice A j c) := hS.node.cell 1
      have k3a : wr.drew.cell? ⟨B + 1, 1, none⟩ = some (.slice A j c) := k3
      have k3b : wr.drew.drew.cell? ⟨B + 1, 1, none⟩ = some (.slice A j c) := k3
      have k3c : wr.drew.drew.drew.cell? ⟨B + 1, 1, none⟩ = some (.slice A j c) := k3
      have hsz := dig_length (n := j) (by omega)
      obtain ⟨T, hT⟩ : ∃ T : ByteArray, T = ⟨(dig j).toArray⟩ := ⟨_, rfl⟩
      have hTz : T.size ≤ 21 := by rw [hT]; exact hsz
      have HNm : Hid (∀ W, Tab W → Calls Tryd.prog 8 #[.int .i64 (j : Int)] W fun e w' => e = .returned (.string T) ∧ Below W.heap.size W w') := Lib.hid (by
        intro W h
        rw [hT]
        exact num_any' j W (by omega) h)
      have Hsn : Hid ((⟨(97 :: dig j).toArray⟩ : ByteArray) = { data := #[97] } ++ T) := Lib.hid (by rw [hT]; apply ByteArray.ext; simp [ByteArray.data_append])
      have hz6 : ¬ 9223372036854775807 < 1 + T.size := by omega
      clear hS hsz hT
      go_wp2_with fail
      go_region_law
        (first | (refine step_call_run7 (f := 8) (args := #[.int .i64 (j : Int)]) rfl (by go_simp) ?_; refine (HNm.out wr.drew HTb.out).mono ?_; rintro e w2 ⟨rfl, hB2⟩; refine ⟨_, rfl, ?_⟩; have hM2 := HS.out.below (((Below.refl wr.heap.size wr).drew).trans hB2); obtain ⟨v', W', hrun, hO', hB', -, -, -⟩ := append_ow_one2 LDat7 (bdD j) hM2.o1 (by rw [bdL_length]; omega) (by have := hM2.node.lt; omega); have m3 : w2.cell? ⟨B + 1, 1, none⟩ = some (.slice A j c) := hM2.node.cell 1; have m3a : w2.drew.cell? ⟨B + 1, 1, none⟩ = some (.slice A j c) := m3; have m3b : w2.drew.drew.cell? ⟨B + 1, 1, none⟩ = some (.slice A j c) := m3; have m3c : (w2.alloc (.cells #[.int .i64 0, .string ({ data := #[97] } ++ T), .int .i64 1, .slice none 0 0] 26)).cell? ⟨B + 1, 1, none⟩ = some (.slice A j c) := (hM2.alloc _).node.cell 1; have m3d : (w2.alloc (.cells #[.int .i64 0, .string ({ data := #[97] } ++ T), .int .i64 1, .slice none 0 0] 26)).drew.cell? ⟨B + 1, 1, none⟩ = some (.slice A j c) := m3c; have hn' := hM2.node.below hB' (by omega); have p3 : W'.cell? ⟨B + 1, 1, none⟩ = some (.slice A j c) := hn'.cell 1; have f3 : W'.frozen? ⟨B + 1, 1, none⟩ = false := hn'.free 1; have p4 : W'.drew.cell? ⟨B + 1, 1, none⟩ = some (.slice A j c) := hn'.cell 1; have f4 : W'.drew.frozen? ⟨B + 1, 1, none⟩ = false := hn'.free 1; obtain ⟨A', c', hv'⟩ : ∃ A' c', v' = .slice A' (j + 1) c' := (by obtain ⟨A', c', h, _⟩ := hO'.rw; exact ⟨A', c', by rw [h]; simp [bdL_length]⟩); subst hv'; rw [show (LD.enc (bdD j)).toArray = #[.int .i64 0, .string ({ data := #[97] } ++ T), .int .i64 1, .slice none 0 0] by rw [← Hsn.out]; rfl] at hrun) | (refine step_append_run rfl _ _ 27 27 rfl _ _ rfl rfl _ _ (hrun _) ?_))
      all_goals
        have HM3 := Lib.hid (hM2.more hO' hB')
        clear hM2 hrun hO' hB' hn' m3 m3a m3b m3c m3d p3 p4 f3 f4 hB2
        go_wp2
        go_roundw
        case rel => exact ⟨j + 1, _, _, by omega, by go_num, HM3.out⟩
        case measure => simp [RowKit.intOf]; omega
    · obtain rfl : j = V := by omega
      have HS := Lib.hid hS
      clear hS HS0
      obtain ⟨W3, hW3⟩ : ∃ W3, W3 = wr := ⟨_, rfl⟩
      rw [← hW3] at HS ⊢
      clear hW3
      go_wp2_with fail
      have HC0 := Lib.hid (ChM.start W3)
      have HB0 : Hid (Below W3.heap.size W3 (W3.alloc (.cells #[.int .i64 1, .int .i64 0, .int .i64 0, .string { data := #[] }, .slice none 0 0] 34))) := Lib.hid ((Below.refl _ _).alloc (Nat.le_refl _) _)
      go_loopw [11] (fun i wr => ∃ (k : Nat) (e : Ex), k ≤ D ∧ i = .int .i64 (k : Int) ∧ ChM wr W3.heap.size e k ∧ Below W3.heap.size W3 wr) (fun i _ => D - (RowKit.intOf i).toNat)
      case atStart => exact ⟨0, _, Nat.zero_le _, rfl, HC0.out, HB0.out⟩
      case round =>
        obtain ⟨k, e, hk, rfl, hC, hB⟩ := hrel
        by_cases hp : k < D
        · have HSt := Lib.hid hC.step
          obtain ⟨⟨k0, k1, k2, k3, k4⟩, -⟩ := blkx hC.blk
          obtain ⟨⟨m0, m1, m2, m3, m4⟩, f0, f1, f2, f3, f4⟩ := blkx (hC.blk.alloc (.cells #[.int .i64 e.op, .int .i64 e.pos, .int .i64 e.n, .string ⟨e.name.toArray⟩, .slice e.A e.l.length e.c] 34))
          have HBs := Lib.hid ((((((hB.alloc hB.size (.cells #[.int .i64 e.op, .int .i64 e.pos, .int .i64 e.n, .string ⟨e.name.toArray⟩, .slice e.A e.l.length e.c] 34)).setCell (p := ⟨W3.heap.size, 0, none⟩) (Nat.le_refl _) (.int .i64 4)).setCell (p := ⟨W3.heap.size, 1, none⟩) (Nat.le_refl _) (.int .i64 0)).setCell (p := ⟨W3.heap.size, 2, none⟩) (Nat.le_refl _) (.int .i64 0)).setCell (p := ⟨W3.heap.size, 3, none⟩) (Nat.le_refl _) (.string { data := #[] })).setCell (p := ⟨W3.heap.size, 4, none⟩) (Nat.le_refl _) (.slice (some ⟨wr.heap.size, 0, none⟩) 1 1))
          clear hC hB
          go_wp2
          go_roundw
          case rel => exact ⟨k + 1, _, by omega, by go_num, HSt.out, HBs.out⟩
          case measure => simp [RowKit.intOf]; omega
        · obtain rfl : k = D := by omega
          have HC := Lib.hid hC
          have HBr := Lib.hid hB
          have HN := Lib.hid (HS.out.below hB)
          clear HC0 HB0 hC hB
          obtain ⟨W4, hW4⟩ : ∃ W4, W4 = wr := ⟨_, rfl⟩
          rw [← hW4] at HC HBr HN ⊢
          clear hW4
          obtain ⟨⟨k0, k1, k2, k3, k4⟩, -⟩ := blkx (HC.out.blk.alloc (.cells #[.string { data := #[120] }] 9))
          have hz4 : (W4.alloc (.cells #[.string { data := #[120] }] 9)).heap.size = W4.heap.size + 1 := World.size_alloc _ _
          obtain ⟨eqc, heqc⟩ : ∃ eqc : Array Value, eqc = #[.int .i64 0, .slice (some ⟨W4.heap.size, 0, none⟩) 1 1, .int .i64 e.op, .int .i64 e.pos, .int .i64 e.n, .string ⟨e.name.toArray⟩, .slice e.A e.l.length e.c, .string { data := #[] }, .slice none 0 0, .string { data := #[] }] := ⟨_, rfl⟩
          have hnn := (HN.out.node.alloc (.cells #[.string { data := #[120] }] 9)).alloc (.cells eqc 37)
          have n4 : ((W4.alloc (.cells #[.string { data := #[120] }] 9)).alloc (.cells eqc 37)).cell? ⟨B + 1, 4, none⟩ = some (.slice none 0 0) := hnn.cell 4
          have nf4 := hnn.free 4
          rw [heqc] at n4 nf4
          have hQ0 := BdQ.first HN.out HC.out (by have := HN.out.node.lt; have := HS.out.node.lt; omega)
          have hzS := HS.out.node.lt
          clear hnn
          go_wp2_with fail
          subst heqc
          obtain ⟨q0, hq0⟩ : ∃ q0, q0 = W4.heap.size := ⟨_, rfl⟩
          obtain ⟨W5, hW5⟩ : ∃ W5, W5 = (((W4.alloc (.cells #[.string { data := #[120] }] 9)).alloc (.cells #[.int .i64 0, .slice (some ⟨W4.heap.size, 0, none⟩) 1 1, .int .i64 e.op, .int .i64 e.pos, .int .i64 e.n, .string ⟨e.name.toArray⟩, .slice e.A e.l.length e.c, .string { data := #[] }, .slice none 0 0, .string { data := #[] }] 37)).setCell ⟨B + 1, 4, none⟩ (.slice (some ⟨W4.heap.size + 1, 0, none⟩) 1 1)) := ⟨_, rfl⟩
          have hz5 : W5.heap.size = q0 + 2 := by rw [hW5, hq0]; simp [World.setCell]
          rw [← hW5, ← hq0] at hQ0
          rw [← hW5]
          have HQ0 := Lib.hid hQ0
          have HZ5 := Lib.hid hz5
          clear hW5 hQ0 hz5 hz4 hzS k0 k1 k2 k3 k4 n4 nf4 hq0
          go_loopw [12, 13] (fun v i wr => ∃ (m : Nat) (A2 : Option Addr) (c2 : Nat), m ≤ M ∧ i = .int .i64 (m : Int) ∧ v = .slice A2 m c2 ∧ Ow LX wr (q0 + 2) (.slice A2 m c2) (List.replicate m exB) ∧ Below W5.heap.size W5 wr) (fun _ i _ => M - (RowKit.intOf i).toNat)
          case atStart => exact ⟨0, none, 0, Nat.zero_le _, rfl, rfl, Ow.nil LX _ _, Below.refl _ _⟩
          case round =>
            obtain ⟨m, A2, c2, hm, rfl, rfl, hO, hB⟩ := hrel
            by_cases hp : m < M
            · obtain ⟨v1, W1, hrun, hO1, hB1, -, -, -⟩ := append_ow_one2 LXat exB hO (by simp; omega) (by have := hB.size; have := HZ5.out; omega)
              obtain ⟨A1, cx, rfl⟩ : ∃ A c, v1 = .slice A (m + 1) c := by
                obtain ⟨A, c, h, _⟩ := hO1.rw
                exact ⟨A, c, by rw [h]; simp⟩
              have HRun : Hid (∀ ty, (Builtin.append_ #[32, 32] ty #[.slice A2 m c2, .slice (some ⟨wr.heap.size, 0, none⟩) 1 1]).run Tryd.prog (wr.alloc (.cells #[.int .i64 2, .int .i64 0, .int .i64 1, .string { data := #[] }, .slice none 0 0] 34)) = .ok (.slice A1 (m + 1) cx) W1) := Lib.hid hrun
              have HO1 : Hid (Ow LX W1 (q0 + 2) (.slice A1 (m + 1) cx) (List.replicate (m + 1) exB)) := Lib.hid (by rw [List.replicate_succ']; exact hO1)
              have HBn : Hid (Below W5.heap.size W5 W1) := Lib.hid (hB.trans (by rw [HZ5.out]; exact hB1))
              clear hrun hO hO1 hB1 hB
              go_wp2_with (at_builtin; refine wpList_append_eq rfl _ _ 32 rfl _ _ (.slice A1 (m + 1) cx) W1 rfl rfl (HRun.out _) ?_)
              go_roundw
              case rel => exact ⟨m + 1, A1, cx, by omega, by go_num, rfl, HO1.out, HBn.out⟩
              case measure => simp [RowKit.intOf]; omega
            · obtain rfl : m = M := by omega
              have HO := Lib.hid hO
              have HQ := Lib.hid (HQ0.out.below hB)
              clear hO hB HQ0 HZ5
              obtain ⟨W6, hW6⟩ : ∃ W6, W6 = wr := ⟨_, rfl⟩
              rw [← hW6] at HO HQ ⊢
              clear hW6
              have hQl := HQ.out.below ((Below.refl _ _).alloc (Nat.le_refl _) (.cells #[.string { data := #[120] }] 9))
              have hzl : (W6.alloc (.cells #[.string { data := #[120] }] 9)).heap.size = W6.heap.size + 1 := World.size_alloc _ _
              have hz6 := HQ.out.lt.2
              obtain ⟨v', W', hrun, hO', hB', hs', hK', hob'⟩ := append_big LQat7 (bdP ⟨W6.heap.size, 0, none⟩ A2 c2 (List.replicate m exB)) hQl.o4 (by simp) (by omega)
              have hDn := HQ.out.done HO.out hO' hB' (by omega) (fun g h1 h2 => hK' g (by omega) (by simp [Value.ownBlock]; omega))
              have hn' := hQl.node.below hB' (by have := HQ.out.lt.1; omega)
              obtain ⟨⟨p0, p1, p2, p3, p4⟩, -⟩ := blkx hn'
              have f4 : W'.frozen? ⟨B + 1, 4, none⟩ = false := hn'.free 4
              have k4 : W6.cell? ⟨B + 1, 4, none⟩ = some (.slice (some ⟨q0 + 1, 0, none⟩) 1 1) := HQ.out.node.cell 4
              rw [hzl] at hrun
              have HRun : Hid (∀ ty, (Builtin.append_ #[28, 28] ty #[.slice (some ⟨q0 + 1, 0, none⟩) 1 1, .slice (some ⟨W6.heap.size + 1, 0, none⟩) 1 1]).run Tryd.prog ((W6.alloc (.cells #[.string { data := #[120] }] 9)).alloc (.cells #[.int .i64 0, .slice (some ⟨W6.heap.size, 0, none⟩) 1 1, .int .i64 0, .int .i64 0, .int .i64 0, .string { data := #[] }, .slice none 0 0, .string { data := #[103] }, .slice A2 m c2, .string { data := #[] }] 37)) = .ok v' W') := Lib.hid (by
                have h := hrun
                rw [show (LQ.enc (bdP ⟨W6.heap.size, 0, none⟩ A2 c2 (List.replicate m exB))).toArray = #[.int .i64 0, .slice (some ⟨W6.heap.size, 0, none⟩) 1 1, .int .i64 0, .int .i64 0, .int .i64 0, .string { data := #[] }, .slice none 0 0, .string { data := #[103] }, .slice A2 m c2, .string { data := #[] }] by simp [LQ, Qx.vals, bdP, Ex.op, Ex.pos, Ex.n, Ex.name, Ex.A, Ex.c, Ex.l]] at h
                exact h)
              obtain ⟨qA, qc, rfl, hLs, hNd, hBf⟩ := hDn
              have HCh := Lib.hid HQ.out.ch
              obtain ⟨Wf, hWf⟩ : ∃ Wf, Wf = W'.setCell ⟨B + 1, 4, none⟩ (.slice (some qA) 2 qc) := ⟨_, rfl⟩
              rw [← hWf] at hLs hNd hBf
              have HBf := Lib.hid hBf
              have hVd := valid_any (bdN A c j ⟨B, 0, none⟩ qA qc ⟨q0, 0, none⟩ ⟨W6.heap.size, 0, none⟩ e A2 c2 m) Wf (fun k => ads.getD k default) (te_of7 (HSn.out.later hBf)) hLs (k + 1) (bd_fits HCh.out _ _ _ _ _ _ _ _ _ _ _ (by omega)) (by show 2 ≤ 100000; decide) ⟨by show (bdL j).length ≤ _; rw [bdL_length]; omega, by show 1 ≤ 1000000; decide, Nat.zero_le _⟩
              rw [bd_valid HCh.out _ _ _ _ _ _ _ _ _ _ _ (by omega)] at hVd
              unfold Ng.val bdN at hVd
              dsimp only at hVd
              rw [bdL_length] at hVd
              have HVd := Lib.hid hVd
              obtain ⟨⟨d0, d1, d2, d3, d4⟩, -⟩ := blkx hNd
              subst hWf
              clear hQl hzl hz6 hrun hO' hB' hs' hK' hob' hn' hLs hNd hBf hVd
              go_wp2_with (first | (at_builtin; refine wpList_append_eq rfl _ _ 28 rfl _ _ (.slice (some qA) 2 qc) W' rfl rfl (HRun.out _) ?_))
              refine HVd.out.mono ?_
              rintro e9 w9 ⟨hB9, hO9⟩
              have HB9 := Lib.hid (HBf.out.trans (hB9.mono HBf.out.size))
              clear hB9 HVd HBf
              by_cases c1 : 32 < j + 1 ∨ 256 < k + 1 + m
              · unfold bdE at hO9
                rw [if_pos c1] at hO9
                obtain rfl : e9 = .returned (.iface 188 (.pointer (some (ads.getD 2 default)))) := hO9
                have HI := Lib.hid (is_err w9 ads 2 (ads.getD 2 default) 103 (by decide) (HSn.out.later HB9.out) (HSn.out.get7 2 (by decide)))
                have c1b : (32 : Int) < (j : Int) + 1 ∨ ¬ (32 : Int) < (j : Int) + 1 ∧ (256 : Int) < (k : Int) + 1 + (m : Int) := by omega
                clear c1
                rcases c1b with c1 | ⟨c1, c2⟩
                all_goals
                  go_wp2_with fail
                  refine HI.out.mono ?_
                  rintro e10 w10 ⟨rfl, hB10⟩
                  have HB10 := Lib.hid (HB9.out.trans (hB10.mono HB9.out.size))
                  clear hB10
                  go_wp2
                  go_ret
                  exact ⟨rfl, HB10.out⟩
              · have c1a : ¬ (32 : Int) < (j : Int) + 1 := by omega
                have c1b : ¬ (256 : Int) < (k : Int) + 1 + (m : Int) := by omega
                unfold bdE at hO9
                rw [if_neg c1] at hO9
                by_cases c3 : 24 < k + 1
                · rw [if_pos c3] at hO9
                  obtain rfl : e9 = .returned (.iface 188 (.pointer (some (ads.getD 7 default)))) := hO9
                  have HI := Lib.hid (is_err w9 ads 7 (ads.getD 7 default) 108 (by decide) (HSn.out.later HB9.out) (HSn.out.get7 7 (by decide)))
                  have c3a : (24 : Int) < (k : Int) + 1 := by omega
                  clear c1 c3
                  go_wp2_with fail
                  refine HI.out.mono ?_
                  rintro e10 w10 ⟨rfl, hB10⟩
                  have HB10 := Lib.hid (HB9.out.trans (hB10.mono HB9.out.size))
                  clear hB10
                  go_wp2
                  go_ret
                  exact ⟨rfl, HB10.out⟩
                · rw [if_neg c3] at hO9
                  obtain rfl : e9 = .returned .nilIface := hO9
                  have c3a : ¬ (24 : Int) < (k : Int) + 1 := by omega
                  clear c1 c3
                  go_wp2
                  go_ret
                  exact ⟨rfl, HB9.out⟩
end Go.Proofs.YtacmibkcnmaagaaDoor
