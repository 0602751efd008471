/-
  The walk of DiskPlays. Conditions: each theorem's own premises.
-/
import Derived.Test.YtgombgkfocpacaaDoorLawPlA
import Derived.Deep.DeepCutAuto
namespace Go.Proofs.YtgombgkfocpacaaDoor
open Go.RowKit Go.Maps

set_option maxRecDepth 100000 in
set_option maxHeartbeats 4000000 in
theorem diskPlays_some (a : Nat) (A : Option Addr) (n c : Nat) (L : List DoV) (w : World) (ads : List Addr) (hS : Sents w ads) (h1 : 1 ≤ a) (h2 : a ≤ 16384) (hn : n = L.length) (hn60 : n ≤ 60) (hL : Dos w A L) :
    Calls Tryd.prog 3 #[.int .i64 (a : Int), .slice A n c] w (RetYes w) := by
  have HS := Lib.hid hS
  have HN := Lib.hid hn
  have HL := Lib.hid hL
  clear hS hn hL
  have i1 : ¬ (a : Int) < 1 := by omega
  have i2 : ¬ (16384 : Int) < a := by omega
  have i3 : ¬ (60 : Int) < n := by omega
  go_enter Tryd.func3, Tryd.ntmps3
  go_wp2_with fail
  refine (first_any w).mono ?_
  rintro e w1 ⟨rfl, hB1⟩
  have HB1 := Lib.hid hB1
  clear hB1
  go_wp2_with fail
  refine (new_ok a w1 h1 h2).mono ?_
  rintro e w2 ⟨g, f, m, rfl, hg, hf, hm, hD2, hB2⟩
  have HB2 := Lib.hid (HB1.out.trans (hB2.mono HB1.out.size))
  have hg' : w.heap.size ≤ g := Nat.le_trans HB1.out.size hg
  have hf' : w.heap.size ≤ f := Nat.le_trans HB1.out.size hf
  have hm' : w.heap.size ≤ m := Nat.le_trans HB1.out.size hm
  have hgl := hD2.gl
  have hfl := hD2.fl
  have hfg := hD2.fg
  have HD2 := Lib.hid hD2
  have HLow := Lib.hid (es_low (es_of HS.out) hg')
  clear hD2 hB2 HB1 hg hf hm
  go_wp2_with fail
  refine (rnew_ok [g, f, w2.heap.size] a w2 h1 h2).mono ?_
  rintro e w3 ⟨rfl, hR3, hF3⟩
  have HB3 := Lib.hid (below_fr HB2.out hF3 HB2.out.size (by simp))
  have HD3 := Lib.hid (HD2.out.fr hF3 (by simp) (by simp) (by simp))
  have HR3 := Lib.hid hR3
  have hx' : w.heap.size ≤ w2.heap.size := HB2.out.size
  have hgx : g ≠ w2.heap.size := by omega
  have hfx : f ≠ w2.heap.size := by omega
  generalize w2.heap.size = x at *
  clear hR3 hF3 HD2 HB2 hgl hfl
  go_wp2_with fail
  refine (is_nil w3).mono ?_
  rintro e w4 ⟨rfl, hB4⟩
  have HT4 : Hid (Two w g f x 0 w4) := Lib.hid ⟨m, _, _, hm', HD3.out.fr ((Fr.refl [] w3).belows hB4 (Nat.le_refl _)) (by simp) (by simp) (by simp), HR3.out.fr ((Fr.refl [] w3).belows hB4 (Nat.le_refl _)) (by simp) (Kp.of_below hB4), Rl.start a, ⟨by simp [newD], by simp [newD], by simp [newD], by simp [newD]⟩, HB3.out.trans (hB4.mono HB3.out.size)⟩
  clear hB4 HD3 HR3 HB3
  go_wp2_with fail
  go_loopw [10] (fun i wr => PlR w g f x n i wr) (fun i _ => n - (intOf i).toNat)
  case atStart => exact ⟨0, Nat.zero_le _, rfl, HT4.out⟩
  case round =>
    obtain ⟨k, hk, rfl, m5, s, r, hm5, hDk, hRf, hRl, hPb, hBl⟩ := hrel
    clear HT4
    have HDk := Lib.hid hDk
    have HRf := Lib.hid hRf
    have HRl := Lib.hid hRl
    have HPb := Lib.hid hPb
    have HBl := Lib.hid hBl
    clear hDk hRf hRl hPb hBl
    by_cases hlt : k < n
    · have hltI : (k : Int) < n := by omega
      have hkL : k < L.length := by have := HN.out; omega
      obtain ⟨ad, hA, hab, q0, q1, q2, q3⟩ := HL.out.pick hkL
      obtain ⟨hs1, hs2, hN1, hN2⟩ := HL.out.each L[k] (List.getElem_mem hkL)
      generalize L[k] = t at *
      have Hs1 := Lib.hid hs1
      have Hs2 := Lib.hid hs2
      subst hA
      have p0 : wr.cell? (ad.add (k * 4)) = some (.int .i64 t.kind) := (HBl.out.cell (p := ad.add (k * 4)) (by rw [add_block]; exact hab)).trans q0
      have p1 : wr.cell? ⟨(ad.add (k * 4)).block, (ad.add (k * 4)).off + 1, none⟩ = some (.int .i64 t.n) := (HBl.out.cell (p := (ad.add (k * 4)).add 1) (by rw [add_block, add_block]; exact hab)).trans q1
      have p2 : wr.cell? ⟨(ad.add (k * 4)).block, (ad.add (k * 4)).off + 2, none⟩ = some (.slice t.A1 t.l1.length t.c1) := (HBl.out.cell (p := (ad.add (k * 4)).add 2) (by rw [add_block, add_block]; exact hab)).trans q2
      have p3 : wr.cell? ⟨(ad.add (k * 4)).block, (ad.add (k * 4)).off + 3, none⟩ = some (.slice t.A2 t.l2.length t.c2) := (HBl.out.cell (p := (ad.add (k * 4)).add 3) (by rw [add_block, add_block]; exact hab)).trans q3
      clear q0 q1 q2 q3 hs1 hs2
      by_cases hb4 : 400 < t.l1.length
      · have hb4I : (400 : Int) < t.l1.length := by omega
        go_wp2
        go_ret
        exact ⟨rfl, HBl.out.trans (((Below.refl _ _).alloc (Nat.le_refl _) _).mono HBl.out.size)⟩
      · have hb4I : ¬ (400 : Int) < t.l1.length := by omega
        by_cases hp3 : 30 < t.l2.length
        · have hp3I : (30 : Int) < t.l2.length := by omega
          go_wp2
          go_ret
          exact ⟨rfl, HBl.out.trans (((Below.refl _ _).alloc (Nat.le_refl _) _).mono HBl.out.size)⟩
        · have hp3I : ¬ (30 : Int) < t.l2.length := by omega
          go_wp2_with fail
          have hF5 : Fr [] wr (wr.alloc (.cells #[.int .i64 t.kind, .int .i64 t.n, .slice t.A1 t.l1.length t.c1, .slice t.A2 t.l2.length t.c2] 36)) := (Fr.refl [] wr).alloc _
          have hT5 : Blk (wr.alloc (.cells #[.int .i64 t.kind, .int .i64 t.n, .slice t.A1 t.l1.length t.c1, .slice t.A2 t.l2.length t.c2] 36)) wr.heap.size 36 #[.int .i64 t.kind, .int .i64 t.n, .slice t.A1 t.l1.length t.c1, .slice t.A2 t.l2.length t.c2] := heap_alloc_new wr _
          have hB5 := below_fr HBl.out hF5 HBl.out.size (by simp)
          have hD5 := HDk.out.fr hF5 (by simp) (by simp) (by simp)
          have hR5 := HRf.out.fr hF5 (by simp) (Kp.of_fr hF5 (by simp))
          have hgl := HDk.out.gl
          have hfl := HDk.out.fl
          have hml := HDk.out.ml
          have hxl := HRf.out.lt
          generalize wr.alloc (.cells #[.int .i64 t.kind, .int .i64 t.n, .slice t.A1 t.l1.length t.c1, .slice t.A2 t.l2.length t.c2] 36) = w5 at *
          have htb : w.heap.size ≤ wr.heap.size := HBl.out.size
          generalize wr.heap.size = tb at *
          refine (clone_any g f m5 s w5 hD5).mono ?_
          rintro e w6 ⟨h, f6, m6, rfl, hh, hf6, hm6, hD6, hB6⟩
          have hs5 := hT5.lt
          have hF6 : Fr [] w5 w6 := (Fr.refl [] w5).belows hB6 (Nat.le_refl _)
          have hT6 := hT5.fr hF6 (by simp)
          have t0 : w6.cell? ⟨tb, 0, none⟩ = some (.int .i64 t.kind) := hT6.cell 0
          have t1 : w6.cell? ⟨tb, 1, none⟩ = some (.int .i64 t.n) := hT6.cell 1
          have t2 : w6.cell? ⟨tb, 2, none⟩ = some (.slice t.A1 t.l1.length t.c1) := hT6.cell 2
          have t3 : w6.cell? ⟨tb, 3, none⟩ = some (.slice t.A2 t.l2.length t.c2) := hT6.cell 3
          have HT6 := Lib.hid hT6
          have HB6 := Lib.hid (hB5.trans (hB6.mono hB5.size))
          have HD6 := Lib.hid (hD5.fr hF6 (by simp) (by simp) (by simp))
          have HR6 := Lib.hid (hR5.fr hF6 (by simp) (Kp.of_below hB6))
          obtain ⟨k6, hH6, _, _⟩ := hD6.head
          have HH6 := Lib.hid hH6
          have hs6 := hB6.size
          clear hF5 hT5 hB5 hD5 hR5 hD6 hB6 hF6 hT6 hH6 HDk HRf HBl p0 p1 p2 p3
          go_wp2_with fail
          refine (calls_head h f6 m6 _ k6 _ _ _ w6 HH6.out).mono ?_
          rintro e w7 ⟨rfl, rfl⟩
          go_upto_region 20 with fail
          iterate 10 (first | go_skip | go_guarded | go_step | go_upon)
          go_cut [] (fun wx => PlCut w g f x (k + 1) h s.calls wx)
          case first =>
            have hDd : Dk w7.drew g f m5 s := HD6.out.fr ((Fr.refl [] w7).drew 1) (by simp) (by simp) (by simp)
            have hRd : Rf w7.drew [g, f, x] x r := HR6.out.fr ((Fr.refl [] w7).drew 1) (by simp) (Kp.drew1 _ _)
            have hBd : Below w.heap.size w w7.drew := HB6.out.drew
            have hmx : m5 ≠ x := by
              obtain ⟨_, _, _, _, hb, _, _⟩ := HR6.out
              exact map_ne_blk HD6.out.map hb
            have hXl : ∀ (W : World), w7.heap.size ≤ W.heap.size → ∀ y ∈ [g, f, x], y < W.heap.size := fun W hW y hy => by
              simp at hy
              omega
            have hmap : ∃ es cl, w7.heap[m5]? = some (.map es cl) := by obtain ⟨es, cl, hb, _⟩ := HD6.out.map; exact ⟨es, cl, hb⟩
            have HDd := Lib.hid hDd
            have HRd := Lib.hid hRd
            have HBd := Lib.hid hBd
            have HTd : Hid (Blk w7.drew tb 36 #[.int .i64 t.kind, .int .i64 t.n, .slice t.A1 t.l1.length t.c1, .slice t.A2 t.l2.length t.c2]) := HT6
            have HHd : Hid (Head w7.drew h f6 m6 s.kept.length k6 s.calls s.armed s.down) := HH6
            have HKd : Hid (∀ {W : World}, Fr [g, m5] w7.drew W → Kp [g, f, x] w7.drew W) := Lib.hid fun hF => Kp.of_fr hF (by simp; exact .inr hmap)
            have HKf : Hid (∀ {W : World}, Fr [g, f] w7 W → Kp [g, f, x] w7 W) := Lib.hid fun hF => Kp.of_fr hF (by simp)
            have HKg : Hid (∀ {W : World}, Fr [g] w7.drew W → Kp [g, f, x] w7.drew W) := Lib.hid fun hF => Kp.of_fr hF (by simp)
            have HXl := Lib.hid hXl
            have HPo := Lib.hid (HRl.out.pok HD6.out.ok)
            have HNm : Hid (r.n ≤ 16384) := Lib.hid (by rw [HRl.out.n]; exact HD6.out.nm)
            have hmg := HD6.out.mg
            have hmf := HD6.out.mf
            clear hDd hRd hBd hmap
            by_cases hk1 : t.kind = 1
            · have hk1b : (t.kind == 1) = true := by rw [beq_iff_eq]; exact hk1
              clear hk1
              by_cases hok : powN s.armed s.down = false ∧ (0 ≤ t.n ∧ t.n < (s.kept.length : Int)) ∧ t.l1.length ≤ 128
              · obtain ⟨hpw, hin, hl1⟩ := hok
                have HPw := Lib.hid hpw
                have HIn := Lib.hid hin
                have HIr : Hid (0 ≤ t.n ∧ t.n < (r.n : Int)) := Lib.hid (by rw [HRl.out.n]; exact hin)
                clear hpw hin
                have HW := Lib.hid (write_ok g f m5 s t.n w.heap.size t.A1 t.c1 t.l1 w7.drew HDd.out HPw.out HIn.out hl1 (Hs1.out.below HBd.out) HBd.out.size (fun ad _ hb => by omega) HPb.out.2.2 ⟨HPb.out.1, by have := HPb.out.2.1; omega⟩)
                go_wp2_with fail
                go_region_held3 (fun W => W.cell? ⟨tb, 1, none⟩ = some (.int .i64 t.n) ∧ W.cell? ⟨tb, 2, none⟩ = some (.slice t.A1 t.l1.length t.c1)) (go_keep)
                  (first
                    | (go_at_call 15; refine HW.out.mono ?_; rintro e w8 ⟨rfl, hD8, hF8⟩; have HD8 := Lib.hid hD8; have HF8 := Lib.hid hF8; have HT8 := Lib.hid (HTd.out.fr hF8 (by simp; omega)); clear hD8 hF8; have a1 : w8.cell? ⟨tb, 1, none⟩ = some (.int .i64 t.n) := HT8.out.cell 1; have a2 : w8.cell? ⟨tb, 2, none⟩ = some (.slice t.A1 t.l1.length t.c1) := HT8.out.cell 2)
                    | (go_at_call 16; refine (rwrite_ok [g, f, x] x r t.n w.heap.size t.A1 _ t.c1 t.l1 w8 (HRd.out.fr HF8.out (by simp; omega) (HKd.out HF8.out)) (by simp) (hXl w8 HF8.out.size) (HRl.out.pow.trans HPw.out) HRl.out.f0 HIr.out rfl hl1 (Hs1.out.below (below_fr HBd.out HF8.out HBd.out.size (by simp; omega))) (Nat.le_trans HBd.out.size HF8.out.size) (fun ad _ hb => by omega) HPo.out HNm.out ⟨by rw [HRl.out.calls]; exact HPb.out.1, by rw [HRl.out.calls]; have := HPb.out.2.1; omega⟩).mono ?_; rintro e w9 ⟨rfl, bs9, hp9, hR9, hF9⟩; have HR9 := Lib.hid hR9; have HF9 := Lib.hid hF9; have HP9 := Lib.hid hp9; have HT9 := Lib.hid (HT8.out.fr hF9 (by simp; omega)); clear hR9 hF9 hp9; have b1 : w9.cell? ⟨tb, 1, none⟩ = some (.int .i64 t.n) := HT9.out.cell 1; have b2 : w9.cell? ⟨tb, 2, none⟩ = some (.slice t.A1 t.l1.length t.c1) := HT9.out.cell 2)
                    | (go_at_call 12; refine (is_nil w9).mono ?_; rintro e w10 ⟨rfl, hB10⟩; have HB10 := Lib.hid hB10; have HT10 := Lib.hid (HT9.out.below hB10 (Nat.lt_of_lt_of_le HT9.out.lt (Nat.le_refl _))); clear hB10; have d1 : w10.cell? ⟨tb, 1, none⟩ = some (.int .i64 t.n) := HT10.out.cell 1; have d2 : w10.cell? ⟨tb, 2, none⟩ = some (.slice t.A1 t.l1.length t.c1) := HT10.out.cell 2))
                go_wp2_with fail
                go_meet
                case rel => exact pl_fin HB10.out hm5 (HD8.out.fr HF9.out (by simp; omega) (by simp; omega) (by simp; omega)) HR9.out (HRl.out.write HPw.out _ (by rw [HP9.out, HRl.out.pend])) ⟨by show 0 ≤ s.calls + 1; have := HPb.out.1; omega, by show s.calls + 1 ≤ ((k + 1 : Nat) : Int); have := HPb.out.2.1; omega, powA_bounds HPb.out.2.2⟩ (below_fr (below_fr HBd.out HF8.out HBd.out.size (by simp; omega)) HF9.out (Nat.le_trans HBd.out.size HF8.out.size) (by simp; omega)) (Blk.fr (Blk.fr HHd.out HF8.out (by simp; omega)) HF9.out (by simp; omega))
              · have hno : powN s.armed s.down = true ∨ ¬ (0 ≤ t.n ∧ t.n < (s.kept.length : Int)) ∨ 128 < t.l1.length := by
                  cases hp : powN s.armed s.down
                  · by_cases hi : 0 ≤ t.n ∧ t.n < (s.kept.length : Int)
                    · exact .inr (.inr (Nat.lt_of_not_le fun hl => hok ⟨hp, hi, hl⟩))
                    · exact .inr (.inl hi)
                  · exact .inl rfl
                have hW := write_err g f m5 s t.n t.A1 t.c1 t.l1.length w7.drew _ _ _ _ HDd.out (es_of (HS.out.later HBd.out)) HLow.out HPb.out.2.2 hno
                obtain ⟨j, hj⟩ : ∃ j, j = errJ (powN s.armed s.down) (decide (¬ (0 ≤ t.n ∧ t.n < (s.kept.length : Int)))) := ⟨_, rfl⟩
                have hj21 : j < 21 := by rw [hj]; exact errJ_lt _ _
                have ha : (if powN s.armed s.down = true then ads.getD 18 default else if ¬ (0 ≤ t.n ∧ t.n < (s.kept.length : Int)) then ads.getD 17 default else ads.getD 2 default) = ads.getD j default := by
                  rw [hj]
                  unfold errJ
                  by_cases e1 : powN s.armed s.down = true
                  · rw [if_pos e1, if_pos e1]
                  · rw [if_neg e1, if_neg e1]
                    by_cases e2 : ¬ (0 ≤ t.n ∧ t.n < (s.kept.length : Int))
                    · rw [if_pos e2, if_pos (decide_eq_true e2)]
                    · rw [if_neg e2, if_neg (by rw [decide_eq_true_eq]; exact e2)]
                have hcd : (if powN r.fuse r.down = true then (119 : Int) else if ¬ (0 ≤ t.n ∧ t.n < (r.n : Int)) then 118 else 103) = 101 + (j : Int) := by
                  rw [hj, HRl.out.pow, HRl.out.n]
                  unfold errJ
                  by_cases e1 : powN s.armed s.down = true
                  · rw [if_pos e1, if_pos e1]; rfl
                  · rw [if_neg e1, if_neg e1]
                    by_cases e2 : ¬ (0 ≤ t.n ∧ t.n < (s.kept.length : Int))
                    · rw [if_pos e2, if_pos (decide_eq_true e2)]; rfl
                    · rw [if_neg e2, if_neg (by rw [decide_eq_true_eq]; exact e2)]; rfl
                rw [ha] at hW
                have HW := Lib.hid hW
                have HNo : Hid (powN r.fuse r.down = true ∨ ¬ (0 ≤ t.n ∧ t.n < (r.n : Int)) ∨ 128 < t.l1.length) := Lib.hid (by rw [HRl.out.pow, HRl.out.n]; exact hno)
                have HRW : Hid (∀ W, Rf W [g, f, x] x r → Calls Tryd.prog 16 #[.pointer (some ⟨x, 0, none⟩), .int .i64 t.n, .slice t.A1 t.l1.length t.c1] W (RetRE4 [g, f, x] x (101 + (j : Int)) r W)) := Lib.hid fun W hW => by
                  have := rwrite_err [g, f, x] x r t.n t.A1 t.l1.length t.c1 W hW (by simp) HRl.out.f0 HNo.out
                  rw [hcd] at this
                  exact this
                generalize hcj : (101 + (j : Int)) = cj at *
                have HCj := Lib.hid hcj
                clear hok hno hW ha hcd hj hcj
                go_wp2_with fail
                go_region_held3 (fun W => W.cell? ⟨tb, 1, none⟩ = some (.int .i64 t.n) ∧ W.cell? ⟨tb, 2, none⟩ = some (.slice t.A1 t.l1.length t.c1)) (go_keep)
                  (first
                    | (go_at_call 15; refine HW.out.mono ?_; rintro e w8 ⟨rfl, hD8, hF8⟩; have HD8 := Lib.hid hD8; have HF8 := Lib.hid hF8; have HT8 := Lib.hid (HTd.out.fr hF8 (by simp; omega)); clear hD8 hF8; have a1 : w8.cell? ⟨tb, 1, none⟩ = some (.int .i64 t.n) := HT8.out.cell 1; have a2 : w8.cell? ⟨tb, 2, none⟩ = some (.slice t.A1 t.l1.length t.c1) := HT8.out.cell 2)
                    | (go_at_call 16; refine (HRW.out w8 (HRd.out.fr HF8.out (by simp; omega) (HKg.out HF8.out))).mono ?_; rintro e w9 ⟨rfl, hR9, hF9⟩; have HR9 := Lib.hid hR9; have HF9 := Lib.hid hF9; have HT9 := Lib.hid (HT8.out.fr hF9 (by simp; omega)); clear hR9 hF9; have b1 : w9.cell? ⟨tb, 1, none⟩ = some (.int .i64 t.n) := HT9.out.cell 1; have b2 : w9.cell? ⟨tb, 2, none⟩ = some (.slice t.A1 t.l1.length t.c1) := HT9.out.cell 2)
                    | (go_at_call 12; refine (is_err w9 ads j _ cj HCj.out.symm (HS.out.later (below_fr (below_fr HBd.out HF8.out HBd.out.size (by simp; omega)) HF9.out (Nat.le_trans HBd.out.size HF8.out.size) (by simp; omega))) (ads_at HS.out j hj21)).mono ?_; rintro e w10 ⟨rfl, hB10⟩; have HB10 := Lib.hid hB10; have HT10 := Lib.hid (HT9.out.below hB10 (Nat.lt_of_lt_of_le HT9.out.lt (Nat.le_refl _))); clear hB10; have d1 : w10.cell? ⟨tb, 1, none⟩ = some (.int .i64 t.n) := HT10.out.cell 1; have d2 : w10.cell? ⟨tb, 2, none⟩ = some (.slice t.A1 t.l1.length t.c1) := HT10.out.cell 2))
                go_wp2_with fail
                go_meet
                case rel => exact pl_fin HB10.out hm5 (HD8.out.fr HF9.out (by simp; omega) (by simp; omega) (by simp; omega)) HR9.out HRl.out.fail ⟨HPb.out.1, by have := HPb.out.2.1; show s.calls ≤ ((k + 1 : Nat) : Int); omega, powA_bounds HPb.out.2.2⟩ (below_fr (below_fr HBd.out HF8.out HBd.out.size (by simp; omega)) HF9.out (Nat.le_trans HBd.out.size HF8.out.size) (by simp; omega)) (Blk.fr (Blk.fr HHd.out HF8.out (by simp; omega)) HF9.out (by simp; omega))
            · have hk1b : (t.kind == 1) = false := by rw [beq_eq_false_iff_ne]; exact hk1
              by_cases hk2 : t.kind = 2
              · have hk2b : (t.kind == 2) = true := by rw [beq_iff_eq]; exact hk2
                clear hk1 hk2
                cases hpw : powN s.armed s.down
                · have HPw := Lib.hid hpw
                  clear hpw
                  go_wp2_with fail
                  refine (flush_ok g f m5 s w7 HD6.out HPw.out HPb.out.2.2 ⟨HPb.out.1, by have := HPb.out.2.1; omega⟩).mono ?_
                  rintro e w8 ⟨rfl, m8, hm8, hD8, hF8⟩
                  have hm8' : w.heap.size ≤ m8 := by
                    rcases hm8 with rfl | h
                    · exact hm5
                    · exact Nat.le_trans HB6.out.size h
                  have HD8 := Lib.hid hD8
                  have HF8 := Lib.hid hF8
                  have HR8 := Lib.hid (HR6.out.fr hF8 (by simp; omega) (HKf.out hF8))
                  have HB8 := Lib.hid (below_fr HB6.out hF8 HB6.out.size (by simp; omega))
                  clear hD8 hF8 hm8
                  go_wp2_with fail
                  refine (rflush_ok [g, f, x] x r w8 HR8.out (by simp) (HXl.out w8 HF8.out.size) (HRl.out.pow.trans HPw.out) HRl.out.f0 HPo.out HRl.out.kok HNm.out ⟨by rw [HRl.out.calls]; exact HPb.out.1, by rw [HRl.out.calls]; have := HPb.out.2.1; omega⟩).mono ?_
                  rintro e w9 ⟨rfl, bs9, hp9, hok9, hR9, hF9⟩
                  have HR9 := Lib.hid hR9
                  have HF9 := Lib.hid hF9
                  have HRl9 := Lib.hid (HRl.out.flush HD6.out.ok rfl HPw.out hp9 hok9)
                  have hm8x : m8 ≠ x := by
                    obtain ⟨_, _, _, _, hb, _, _⟩ := HR8.out
                    exact map_ne_blk HD8.out.map hb
                  have HD9 := Lib.hid (HD8.out.fr hF9 (by simp; omega) (by simp; omega) (by simp; omega))
                  have HB9 := Lib.hid (below_fr HB8.out hF9 HB8.out.size (by simp; omega))
                  clear hR9 hF9 hp9 hok9 HR8 HD8 HB8
                  go_wp2_with fail
                  refine (is_nil w9).mono ?_
                  rintro e w10 ⟨rfl, hB10⟩
                  have HB10 := Lib.hid hB10
                  clear hB10
                  go_wp2_with fail
                  go_meet
                  case rel => exact pl_fin HB10.out hm8' HD9.out HR9.out HRl9.out ⟨by show 0 ≤ s.calls + 1; have := HPb.out.1; omega, by show s.calls + 1 ≤ ((k + 1 : Nat) : Int); have := HPb.out.2.1; omega, powA_bounds HPb.out.2.2⟩ HB9.out (Blk.fr (Blk.fr HH6.out HF8.out (by simp; omega)) HF9.out (by simp; omega))
                · have HPw := Lib.hid hpw
                  clear hpw
                  go_wp2_with fail
                  refine (flush_err g f m5 s w7 _ _ _ _ HD6.out (es_of (HS.out.later HB6.out)) HLow.out HPb.out.2.2 HPw.out).mono ?_
                  rintro e w8 ⟨rfl, hD8, hF8⟩
                  have HD8 := Lib.hid hD8
                  have HF8 := Lib.hid hF8
                  have HR8 := Lib.hid (HR6.out.fr hF8 (by simp; omega) (Kp.of_fr hF8 (by simp)))
                  have HB8 := Lib.hid (below_fr HB6.out hF8 HB6.out.size (by simp; omega))
                  clear hD8 hF8
                  go_wp2_with fail
                  refine (rflush_err [g, f, x] x r w8 HR8.out (by simp) HRl.out.f0 (HRl.out.pow.trans HPw.out)).mono ?_
                  rintro e w9 ⟨rfl, hR9, hF9⟩
                  have HR9 := Lib.hid hR9
                  have HF9 := Lib.hid hF9
                  have HD9 := Lib.hid (HD8.out.fr hF9 (by simp; omega) (by simp; omega) (by simp; omega))
                  have HB9 := Lib.hid (below_fr HB8.out hF9 HB8.out.size (by simp; omega))
                  clear hR9 hF9 HR8 HD8 HB8
                  go_wp2_with fail
                  refine (is_err w9 ads 18 _ 119 rfl (HS.out.later HB9.out) (ads_at HS.out 18 (by omega))).mono ?_
                  rintro e w10 ⟨rfl, hB10⟩
                  have HB10 := Lib.hid hB10
                  clear hB10
                  go_wp2_with fail
                  go_meet
                  case rel => exact pl_fin HB10.out hm5 HD9.out HR9.out HRl.out.fail ⟨HPb.out.1, by have := HPb.out.2.1; show s.calls ≤ ((k + 1 : Nat) : Int); omega, powA_bounds HPb.out.2.2⟩ HB9.out (Blk.fr (Blk.fr HH6.out HF8.out (by simp; omega)) HF9.out (by simp; omega))
              · have hk2b : (t.kind == 2) = false := by rw [beq_eq_false_iff_ne]; exact hk2
                by_cases hk3 : t.kind = 3
                · have hk3b : (t.kind == 3) = true := by rw [beq_iff_eq]; exact hk3
                  clear hk1 hk2 hk3
                  obtain ⟨k7, hH7, h71, h72⟩ := HD6.out.head
                  have HH7 := Lib.hid hH7
                  clear hH7
                  go_wp2_with fail
                  refine (arm_head g f m5 _ k7 _ _ t.n _ w7 HH7.out).mono ?_
                  rintro e w8 ⟨rfl, hH8, hF8⟩
                  have HD8 := Lib.hid (HD6.out.fused hF8 hH8 h71 h72)
                  have HF8 := Lib.hid hF8
                  have hR8 := HR6.out.fr hF8 (by simp; omega) (Kp.of_fr hF8 (by simp))
                  have HB8 := Lib.hid (below_fr HB6.out hF8 HB6.out.size (by simp; omega))
                  have HT8 := Lib.hid (HT6.out.fr hF8 (by simp; omega))
                  have a1 : w8.cell? ⟨tb, 1, none⟩ = some (.int .i64 t.n) := HT8.out.cell 1
                  obtain ⟨Ak, ck, Ap, cp, hHr, hBk, hBp⟩ := hR8
                  have HHr := Lib.hid hHr
                  have HBk := Lib.hid hBk
                  have HBp := Lib.hid hBp
                  clear hH8 hF8 hHr hBk hBp
                  go_wp2_with fail
                  refine (rarm_head x r.n _ _ _ _ _ _ _ _ t.n _ w8 HHr.out).mono ?_
                  rintro e w9 ⟨rfl, hH9, hF9⟩
                  have HR9 := Lib.hid (rfused (X := [g, f, x]) (by simp) HBk.out HBp.out hF9 hH9)
                  have HF9 := Lib.hid hF9
                  have HD9 := Lib.hid (HD8.out.fr hF9 (by simp; omega) (by simp; omega) (by simp; omega))
                  have HB9 := Lib.hid (below_fr HB8.out hF9 HB8.out.size (by simp; omega))
                  clear hH9 hF9 HD8 HB8 HBk HBp HHr
                  go_wp2_with fail
                  go_meet
                  case rel => exact pl_fin (Below.refl _ _) hm5 HD9.out HR9.out (HRl.out.arm t.n ⟨hN1, hN2⟩) ⟨HPb.out.1, by have := HPb.out.2.1; show s.calls ≤ ((k + 1 : Nat) : Int); omega, hN1, hN2⟩ HB9.out (Blk.fr (Blk.fr HH6.out HF8.out (by simp; omega)) HF9.out (by simp; omega))
                · have hk3b : (t.kind == 3) = false := by rw [beq_eq_false_iff_ne]; exact hk3
                  clear hk1 hk2 hk3
                  go_wp2_with fail
                  refine (crash_any g f m5 s w.heap.size t.A2 _ t.c2 t.l2 w7 HD6.out (Hs2.out.fr ((Fr.refl [] w).belows HB6.out (Nat.le_refl _)) (Nat.le_refl _) (by simp)) rfl HB6.out.size (fun ad _ hb => by omega)).mono ?_
                  rintro e w8 ⟨rfl, m8, hm8, hD8, hF8⟩
                  have hm8' : w.heap.size ≤ m8 := by
                    rcases hm8 with rfl | h
                    · exact hm5
                    · exact Nat.le_trans HB6.out.size h
                  have HD8 := Lib.hid hD8
                  have HF8 := Lib.hid hF8
                  have HR8 := Lib.hid (HR6.out.fr hF8 (by simp; omega) (HKf.out hF8))
                  have HB8 := Lib.hid (below_fr HB6.out hF8 HB6.out.size (by simp; omega))
                  have HT8 := Lib.hid (HT6.out.fr hF8 (by simp; omega))
                  have a3 : w8.cell? ⟨tb, 3, none⟩ = some (.slice t.A2 t.l2.length t.c2) := HT8.out.cell 3
                  clear hD8 hF8 hm8
                  go_wp2_with fail
                  refine (rcrash_any [g, f, x] x r w.heap.size t.A2 _ t.c2 t.l2 w8 HR8.out (by simp) (HXl.out w8 HF8.out.size) (Hs2.out.fr ((Fr.refl [] w).belows HB8.out (Nat.le_refl _)) (Nat.le_refl _) (by simp)) HB8.out.size rfl (fun ad _ hb => by omega) HPo.out HRl.out.kok HNm.out).mono ?_
                  rintro e w9 ⟨rfl, bs9, hp9, hok9, hR9, hF9⟩
                  have HR9 := Lib.hid hR9
                  have HF9 := Lib.hid hF9
                  have HRl9 := Lib.hid (HRl.out.crash HD6.out.ok rfl t.l2 hp9 hok9)
                  have hm8x : m8 ≠ x := by
                    obtain ⟨_, _, _, _, hb, _, _⟩ := HR8.out
                    exact map_ne_blk HD8.out.map hb
                  have HD9 := Lib.hid (HD8.out.fr hF9 (by simp; omega) (by simp; omega) (by simp; omega))
                  have HB9 := Lib.hid (below_fr HB8.out hF9 HB8.out.size (by simp; omega))
                  clear hR9 hF9 hp9 hok9 HR8 HD8 HB8
                  go_wp2_with fail
                  go_meet
                  case rel => exact pl_fin (Below.refl _ _) hm8' HD9.out HR9.out HRl9.out ⟨HPb.out.1, by have := HPb.out.2.1; show s.calls ≤ ((k + 1 : Nat) : Int); omega, by show -9223372036854775808 ≤ (0 : Int); omega, by show (0 : Int) ≤ 9223372036854775807; omega⟩ HB9.out (Blk.fr (Blk.fr HH6.out HF8.out (by simp; omega)) HF9.out (by simp; omega))
          case rest =>
            obtain ⟨⟨m8, s8, r8, hm8, hD8, hR8, hRl8, hPb8, hB8⟩, f2, m2, n2, k2, a2, d2, hHc⟩ := hcut
            have hn8 := hRl8.n
            have hc8 := hRl8.calls
            have hd8 := hRl8.down
            have hp8 := hRl8.plen
            obtain ⟨k8, hH8, _, _⟩ := hD8.head
            have HR8 := Lib.hid hR8
            obtain ⟨Ak, ck, Ap, cp, hHr, _, _⟩ := hR8
            have c0 : wc.cell? ⟨x, 0, none⟩ = some (.int .i64 (r8.n : Int)) := Blk.cell hHr 0
            have c1 : wc.cell? ⟨x, 1, none⟩ = some (.int .i64 r8.calls) := Blk.cell hHr 1
            have c3 : wc.cell? ⟨x, 3, none⟩ = some (.slice Ap r8.pend.length cp) := Blk.cell hHr 3
            have c5 : wc.cell? ⟨x, 5, none⟩ = some (.bool r8.down) := Blk.cell hHr 5
            rw [← hn8, ← hc8, ← hd8] at hH8
            have hPd := fun n => pending_head g f m8 _ k8 _ _ _ (wc.drewN n) hH8 (owns_fr hD8.map ((Fr.refl [] wc).drew n) (by simp))
            rw [← hp8] at hPd
            have HSc := Lib.hid fun n => sectors_head g f m8 _ k8 _ _ _ (wc.drewN n) hH8
            have HPd := Lib.hid hPd
            have HCl := Lib.hid fun n => calls_head g f m8 _ k8 _ _ _ (wc.drewN n) hH8
            have HDn := Lib.hid fun n => down_head g f m8 _ k8 _ _ _ (wc.drewN n) hH8
            have HCc := Lib.hid fun n => calls_head h f2 m2 n2 k2 _ _ _ (wc.drewN n) hHc
            have HD8 := Lib.hid hD8
            have HRl8 := Lib.hid hRl8
            have HPb8 := Lib.hid hPb8
            have HB8 := Lib.hid hB8
            clear hH8 hHr hPd hHc hD8 hRl8 hPb8 hB8 hn8 hc8 hd8 hp8
            go_wp2_with fail
            go_quiet (first
              | (go_at_call 23; exact Calls.quiet_of_same (HSc.out _))
              | (go_at_call 24; exact Calls.quiet_of_same (HPd.out _))
              | (go_at_call 25; exact Calls.quiet_of_same (HDn.out _))
              | (go_at_call_of 14 (Value.pointer (some ⟨g, 0, none⟩)); exact Calls.quiet_of_same (HCl.out _))
              | (go_at_call_of 14 (Value.pointer (some ⟨h, 0, none⟩)); exact Calls.quiet_of_same (HCc.out _)))
            have hFq : Fr [] wc (wc.drewN nq) := (Fr.refl [] wc).drew nq
            have HD9 := Lib.hid (HD8.out.fr hFq (by simp) (by simp) (by simp))
            have HR9 := Lib.hid (HR8.out.fr hFq (by simp) (Kp.of_fr hFq (by simp)))
            have HB9 := Lib.hid (below_fr HB8.out hFq HB8.out.size (by simp))
            generalize wc.drewN nq = w9 at *
            clear hFq HD8 HR8 HB8 HSc HPd HCl HDn HCc c0 c1 c3 c5
            go_wp2_with fail
            go_loopw [14] (fun i wr => PlR2 w g f x m8 s8 r8 i wr) (fun i _ => 20 - (intOf i + 1).toNat)
            case atStart => exact ⟨-1, by omega, by omega, rfl, HD9.out, HR9.out, HB9.out⟩
            case round =>
              obtain ⟨q, hq1, hq2, rfl, hDq, hRq, hBq⟩ := hrel
              clear HD9 HR9 HB9
              have HDq := Lib.hid hDq
              have HRq := Lib.hid hRq
              have HBq := Lib.hid hBq
              obtain ⟨Ak, ck, Ap, cp, hHr, _, _⟩ := hRq
              have HHr := Lib.hid hHr
              have e0 : wr.cell? ⟨x, 0, none⟩ = some (.int .i64 (r8.n : Int)) := Blk.cell hHr 0
              have hn8 : r8.n ≤ 16384 := by rw [HRl8.out.n]; exact hDq.nm
              clear hDq hBq hHr
              by_cases hlq : q < min ((r8.n : Int) + 1) 14
              · have hl3 : q < (r8.n : Int) + 1 := by omega
                have hl4 : q < 14 := by omega
                cases hdn : s8.down
                · have HDn8 := Lib.hid hdn
                  clear hdn
                  by_cases hiq : 0 ≤ q ∧ q < (s8.kept.length : Int)
                  · obtain ⟨j, rfl⟩ : ∃ j : Nat, q = (j : Int) := ⟨q.toNat, by omega⟩
                    have HJs : Hid (j < s8.kept.length) := Lib.hid (by omega)
                    have HJr : Hid (0 ≤ (j : Int) ∧ (j : Int) < (r8.n : Int)) := Lib.hid (by rw [HRl8.out.n]; exact hiq)
                    have HKl := Lib.hid (HRl8.out.kok.ok_len hn8)
                    have HPl := Lib.hid ((HRl8.out.pok HDq.out.ok).ok_len hn8)
                    have hlr := HRl8.out.look j (by rw [HRl8.out.n]; exact HJs.out)
                    clear hiq
                    cases hlk : lookD s8 j with
                    | none =>
                      rw [hlk] at hlr
                      have HLk := Lib.hid hlk
                      have HLr := Lib.hid hlr
                      clear hlk hlr
                      go_wp2_with fail
                      refine (read_ok g f m8 s8 j wr HDq.out HDn8.out HJs.out).mono ?_
                      rw [HLk.out]
                      rintro e w11 ⟨hB11, he⟩
                      obtain rfl : e = .returned (.tuple #[.slice none 0 0, .bool false, .nilIface]) := he
                      have hF11 : Fr [] wr w11 := (Fr.refl [] wr).belows hB11 (Nat.le_refl _)
                      have HB11 := Lib.hid (HBq.out.trans (hB11.mono HBq.out.size))
                      have HD11 := Lib.hid (HDq.out.fr hF11 (by simp) (by simp) (by simp))
                      have HR11 := Lib.hid (HRq.out.fr hF11 (by simp) (Kp.of_below hB11))
                      clear hB11 hF11
                      go_wp2_with fail
                      refine (rread_ok [g, f, x] x r8 (j : Int) w11 HR11.out (HRl8.out.down.trans HDn8.out) HJr.out HKl.out HPl.out).mono ?_
                      rw [HLr.out]
                      rintro e w12 ⟨rfl, he⟩
                      obtain rfl : e = .returned (.tuple #[.slice none 0 0, .bool false, .int .i64 0]) := he
                      go_wp2_with fail
                      refine (same_any none none 0 0 0 0 [] [] w12 0 0 rfl rfl (by omega) Str.nil Str.nil).mono ?_
                      rintro e w13 ⟨rfl, n13, rfl⟩
                      rw [show sameB [] [] = true from rfl]
                      have hF13 : Fr [] w12 (w12.drewN n13) := (Fr.refl [] w12).drew n13
                      have HB13 := Lib.hid (below_fr HB11.out hF13 HB11.out.size (by simp))
                      have HD13 := Lib.hid (HD11.out.fr hF13 (by simp) (by simp) (by simp))
                      have HR13 := Lib.hid (HR11.out.fr hF13 (by simp) (Kp.of_fr hF13 (by simp)))
                      generalize w12.drewN n13 = w13 at *
                      clear hF13 HB11 HD11 HR11
                      go_wp2_with fail
                      refine (is_nil w13).mono ?_
                      rintro e w14 ⟨rfl, hB14⟩
                      have hF14 : Fr [] w13 w14 := (Fr.refl [] w13).belows hB14 (Nat.le_refl _)
                      have HB14 := Lib.hid (below_fr HB13.out hF14 HB13.out.size (by simp))
                      have HD14 := Lib.hid (HD13.out.fr hF14 (by simp) (by simp) (by simp))
                      have HR14 := Lib.hid (HR13.out.fr hF14 (by simp) (Kp.of_below hB14))
                      clear hF14 hB14 HB13 HD13 HR13
                      go_wp2
                      go_roundw
                      case rel => exact ⟨(j : Int) + 1, by omega, by omega, by go_num, HD14.out, HR14.out, HB14.out⟩
                      case measure => simp [intOf]; omega
                    | some b =>
                      rw [hlk] at hlr
                      have HLk := Lib.hid hlk
                      have HLr := Lib.hid hlr
                      clear hlk hlr
                      go_wp2_with fail
                      refine (read_ok g f m8 s8 j wr HDq.out HDn8.out HJs.out).mono ?_
                      rw [HLk.out]
                      rintro e w11 ⟨hB11, hh, ch, rfl, hhl, hst11, hle11, _⟩
                      have hF11 : Fr [] wr w11 := (Fr.refl [] wr).belows hB11 (Nat.le_refl _)
                      have HB11 := Lib.hid (HBq.out.trans (hB11.mono HBq.out.size))
                      have HD11 := Lib.hid (HDq.out.fr hF11 (by simp) (by simp) (by simp))
                      have HR11 := Lib.hid (HRq.out.fr hF11 (by simp) (Kp.of_below hB11))
                      have HS11 := Lib.hid hst11
                      clear hB11 hF11 hst11
                      go_wp2_with fail
                      refine (rread_ok [g, f, x] x r8 (j : Int) w11 HR11.out (HRl8.out.down.trans HDn8.out) HJr.out HKl.out HPl.out).mono ?_
                      rw [HLr.out]
                      rintro e w12 ⟨rfl, Ab, cb, rfl, hsb⟩
                      have HSb := Lib.hid hsb
                      clear hsb
                      go_wp2_with fail
                      refine (same_any (some ⟨hh, 0, none⟩) Ab _ _ ch cb b b w12 _ _ rfl rfl (by omega) HS11.out HSb.out.str).mono ?_
                      rintro e w13 ⟨rfl, n13, rfl⟩
                      rw [show sameB b b = true from decide_eq_true rfl]
                      have hF13 : Fr [] w12 (w12.drewN n13) := (Fr.refl [] w12).drew n13
                      have HB13 := Lib.hid (below_fr HB11.out hF13 HB11.out.size (by simp))
                      have HD13 := Lib.hid (HD11.out.fr hF13 (by simp) (by simp) (by simp))
                      have HR13 := Lib.hid (HR11.out.fr hF13 (by simp) (Kp.of_fr hF13 (by simp)))
                      generalize w12.drewN n13 = w13 at *
                      clear hF13 HB11 HD11 HR11
                      go_wp2_with fail
                      refine (is_nil w13).mono ?_
                      rintro e w14 ⟨rfl, hB14⟩
                      have hF14 : Fr [] w13 w14 := (Fr.refl [] w13).belows hB14 (Nat.le_refl _)
                      have HB14 := Lib.hid (below_fr HB13.out hF14 HB13.out.size (by simp))
                      have HD14 := Lib.hid (HD13.out.fr hF14 (by simp) (by simp) (by simp))
                      have HR14 := Lib.hid (HR13.out.fr hF14 (by simp) (Kp.of_below hB14))
                      clear hF14 hB14 HB13 HD13 HR13
                      go_wp2
                      go_roundw
                      case rel => exact ⟨(j : Int) + 1, by omega, by omega, by go_num, HD14.out, HR14.out, HB14.out⟩
                      case measure => simp [intOf]; omega
                  · have HIq := Lib.hid hiq
                    have HIr : Hid (¬ (0 ≤ q ∧ q < (r8.n : Int))) := Lib.hid (by rw [HRl8.out.n]; exact hiq)
                    clear hiq
                    go_wp2_with fail
                    refine (read_full g f m8 s8 q wr _ _ _ _ HDq.out (es_of (HS.out.later HBq.out)) HDn8.out HIq.out).mono ?_
                    rintro e w11 ⟨rfl, hB11⟩
                    have hF11 : Fr [] wr w11 := (Fr.refl [] wr).belows hB11 (Nat.le_refl _)
                    have HB11 := Lib.hid (HBq.out.trans (hB11.mono HBq.out.size))
                    have HD11 := Lib.hid (HDq.out.fr hF11 (by simp) (by simp) (by simp))
                    have HR11 := Lib.hid (HRq.out.fr hF11 (by simp) (Kp.of_below hB11))
                    clear hB11 hF11
                    go_wp2_with fail
                    refine (rread_full [g, f, x] x r8 q w11 HR11.out (HRl8.out.down.trans HDn8.out) HIr.out).mono ?_
                    rintro e w12 ⟨rfl, rfl⟩
                    go_wp2_with fail
                    refine (same_any none none 0 0 0 0 [] [] w12 0 0 rfl rfl (by omega) Str.nil Str.nil).mono ?_
                    rintro e w13 ⟨rfl, n13, rfl⟩
                    rw [show sameB [] [] = true from rfl]
                    have hF13 : Fr [] w12 (w12.drewN n13) := (Fr.refl [] w12).drew n13
                    have HB13 := Lib.hid (below_fr HB11.out hF13 HB11.out.size (by simp))
                    have HD13 := Lib.hid (HD11.out.fr hF13 (by simp) (by simp) (by simp))
                    have HR13 := Lib.hid (HR11.out.fr hF13 (by simp) (Kp.of_fr hF13 (by simp)))
                    generalize w12.drewN n13 = w13 at *
                    clear hF13 HB11 HD11 HR11
                    go_wp2_with fail
                    refine (is_err w13 ads 17 _ 118 rfl (HS.out.later HB13.out) (ads_at HS.out 17 (by omega))).mono ?_
                    rintro e w14 ⟨rfl, hB14⟩
                    have hF14 : Fr [] w13 w14 := (Fr.refl [] w13).belows hB14 (Nat.le_refl _)
                    have HB14 := Lib.hid (below_fr HB13.out hF14 HB13.out.size (by simp))
                    have HD14 := Lib.hid (HD13.out.fr hF14 (by simp) (by simp) (by simp))
                    have HR14 := Lib.hid (HR13.out.fr hF14 (by simp) (Kp.of_below hB14))
                    clear hF14 hB14 HB13 HD13 HR13
                    go_wp2
                    go_roundw
                    case rel => exact ⟨q + 1, by omega, by omega, by go_num, HD14.out, HR14.out, HB14.out⟩
                    case measure => simp [intOf]; omega
                · have HDn8 := Lib.hid hdn
                  clear hdn
                  go_wp2_with fail
                  refine (read_down g f m8 s8 q wr _ _ _ _ HDq.out (es_of (HS.out.later HBq.out)) HDn8.out).mono ?_
                  rintro e w11 ⟨rfl, hB11⟩
                  have hF11 : Fr [] wr w11 := (Fr.refl [] wr).belows hB11 (Nat.le_refl _)
                  have HB11 := Lib.hid (HBq.out.trans (hB11.mono HBq.out.size))
                  have HD11 := Lib.hid (HDq.out.fr hF11 (by simp) (by simp) (by simp))
                  have HR11 := Lib.hid (HRq.out.fr hF11 (by simp) (Kp.of_below hB11))
                  clear hB11 hF11
                  go_wp2_with fail
                  refine (rread_down [g, f, x] x r8 q w11 HR11.out (HRl8.out.down.trans HDn8.out)).mono ?_
                  rintro e w12 ⟨rfl, rfl⟩
                  go_wp2_with fail
                  refine (same_any none none 0 0 0 0 [] [] w12 0 0 rfl rfl (by omega) Str.nil Str.nil).mono ?_
                  rintro e w13 ⟨rfl, n13, rfl⟩
                  rw [show sameB [] [] = true from rfl]
                  have hF13 : Fr [] w12 (w12.drewN n13) := (Fr.refl [] w12).drew n13
                  have HB13 := Lib.hid (below_fr HB11.out hF13 HB11.out.size (by simp))
                  have HD13 := Lib.hid (HD11.out.fr hF13 (by simp) (by simp) (by simp))
                  have HR13 := Lib.hid (HR11.out.fr hF13 (by simp) (Kp.of_fr hF13 (by simp)))
                  generalize w12.drewN n13 = w13 at *
                  clear hF13 HB11 HD11 HR11
                  go_wp2_with fail
                  refine (is_err w13 ads 18 _ 119 rfl (HS.out.later HB13.out) (ads_at HS.out 18 (by omega))).mono ?_
                  rintro e w14 ⟨rfl, hB14⟩
                  have hF14 : Fr [] w13 w14 := (Fr.refl [] w13).belows hB14 (Nat.le_refl _)
                  have HB14 := Lib.hid (below_fr HB13.out hF14 HB13.out.size (by simp))
                  have HD14 := Lib.hid (HD13.out.fr hF14 (by simp) (by simp) (by simp))
                  have HR14 := Lib.hid (HR13.out.fr hF14 (by simp) (Kp.of_below hB14))
                  clear hF14 hB14 HB13 HD13 HR13
                  go_wp2
                  go_roundw
                  case rel => exact ⟨q + 1, by omega, by omega, by go_num, HD14.out, HR14.out, HB14.out⟩
                  case measure => simp [intOf]; omega
              · have HT : Hid (Two w g f x (k + 1) wr) := Lib.hid ⟨m8, s8, r8, hm8, HDq.out, HRq.out, HRl8.out, HPb8.out, HBq.out⟩
                by_cases hl4 : q < 14
                · have hl3 : ¬ q < (r8.n : Int) + 1 := by omega
                  go_wp2
                  go_roundw
                  case rel => exact ⟨k + 1, by omega, by go_num, HT.out⟩
                  case measure => simp [intOf]; omega
                · go_wp2
                  go_roundw
                  case rel => exact ⟨k + 1, by omega, by go_num, HT.out⟩
                  case measure => simp [intOf]; omega
    · have hltI : ¬ (k : Int) < n := by omega
      go_wp2
      go_ret
      exact ⟨rfl, HBl.out⟩

set_option maxRecDepth 100000 in
set_option maxHeartbeats 1000000 in
theorem diskPlays_big (a : Int) (A : Option Addr) (n c : Nat) (w : World) (h : 60 < n) :
    Calls Tryd.prog 3 #[.int .i64 a, .slice A n c] w (RetYes w) := by
  have h1 : (60 : Int) < n := by omega
  go_enter Tryd.func3, Tryd.ntmps3
  go_wp2_with fail
  refine (first_any w).mono ?_
  rintro e w1 ⟨rfl, hB1⟩
  go_wp2
  go_ret
  exact ⟨rfl, hB1⟩

set_option maxRecDepth 100000 in
set_option maxHeartbeats 1000000 in
theorem diskPlays_none (a : Int) (A : Option Addr) (n c : Nat) (w : World) (ads : List Addr) (hS : Sents w ads) (h : a < 1 ∨ 16384 < a) (hn : n ≤ 60) :
    Calls Tryd.prog 3 #[.int .i64 a, .slice A n c] w (RetYes w) := by
  have h1 : ¬ (60 : Int) < n := by omega
  have HS := Lib.hid hS
  have HH := Lib.hid h
  clear hS h
  go_enter Tryd.func3, Tryd.ntmps3
  go_wp2_with fail
  refine (first_any w).mono ?_
  rintro e w1 ⟨rfl, hB1⟩
  have HB1 := Lib.hid hB1
  clear hB1
  go_wp2_with fail
  refine (new_err a w1 _ _ _ _ (es_of (HS.out.later HB1.out)) HH.out).mono ?_
  rintro e w2 ⟨rfl, hB2⟩
  have HB2 := Lib.hid (HB1.out.trans (hB2.mono HB1.out.size))
  clear hB2
  go_wp2_with fail
  refine (rnew_err a w2 HH.out).mono ?_
  rintro e w3 ⟨rfl, rfl⟩
  go_wp2_with fail
  refine (is_err w3 ads 3 _ 104 rfl (HS.out.later HB2.out) (ads_at HS.out 3 (by omega))).mono ?_
  rintro e w4 ⟨rfl, hB4⟩
  have HB4 := Lib.hid (HB2.out.trans (hB4.mono HB2.out.size))
  clear hB4
  go_wp2
  go_ret
  exact ⟨rfl, HB4.out⟩

theorem diskPlays_any (a : Int) (A : Option Addr) (n c : Nat) (L : List DoV) (w : World) (ads : List Addr) (hS : Sents w ads) (hn : n = L.length) (hL : Dos w A L) :
    Calls Tryd.prog 3 #[.int .i64 a, .slice A n c] w (RetYes w) := by
  by_cases h60 : 60 < n
  · exact diskPlays_big a A n c w h60
  · by_cases h : a < 1 ∨ 16384 < a
    · exact diskPlays_none a A n c w ads hS h (by omega)
    · obtain ⟨k, rfl⟩ : ∃ k : Nat, a = (k : Int) := ⟨a.toNat, by omega⟩
      exact diskPlays_some k A n c L w ads hS (by omega) (by omega) hn (by omega) hL
end Go.Proofs.YtgombgkfocpacaaDoor
