/-
  The walk of the document's All over any text, and of LexSays. Conditions: the listed errors lie as they are laid.
-/
import Derived.Test.YtndagbmcdpafjaaDoorQLsH
import Derived.Test.YtndagbmcdpafjaaDoorQLsK
import Derived.Test.YtndagbmcdpafjaaDoorQLxFr
namespace Go.Proofs.YtndagbmcdpafjaaDoor
open Go.Shelf Go.RowKit Go.Lib
attribute [local go_sem] Oper.semAt_some

theorem rskip_nil (A : Option Addr) (c : Nat) (w : World) : Calls Tryd.prog 26 #[.slice A 0 c, .int .i64 0] w (RetKn w 0) := by
  go_enter Tryd.func26, Tryd.ntmps26
  go_wp2_with fail
  refine wp_loop_rounds 1 ?_
  rw [rounds_succ]
  go_wp2
  go_ret
  exact ⟨rfl, rfl⟩
set_option maxRecDepth 100000 in
set_option maxHeartbeats 4000000 in
theorem rall_empty (s : ByteArray) (l : List Tk) (f : Option (Nat × Nat)) (w : World) (hs : s.size ≤ 4096) (hn : noBad s) (hl : (l, f) = lx (rns s.data.toList) 0) (hne0 : pies 0 (pcs s.data.toList) = []) : Calls Tryd.prog 9 #[.string s] w (RetUl w l f) := by
  obtain ⟨W0, hW0⟩ : ∃ W0, W0 = w.alloc (.cells #[.int .i64 0, .bool false, .bool false, .int .i64 0, .int .i64 0] 30) := ⟨_, rfl⟩
  have hB0 : Below w.heap.size w W0 := by rw [hW0]; exact (Below.refl _ _).alloc (Nat.le_refl _) _
  have hr0 : Blk5 W0 w.heap.size 0 0 false := by rw [hW0]; exact heap_alloc_new w _
  have HV := Lib.hid (rvalid_any s W0 hs)
  have HB0 := Lib.hid hB0
  have HR0 := Lib.hid hr0
  obtain ⟨hok, -⟩ := noBad.rns hn
  have HN := Lib.hid hn
  obtain ⟨R, hR⟩ : ∃ R, R = rns s.data.toList := ⟨_, rfl⟩
  have hRl : (pies 0 (pcs s.data.toList)).length = R.length := by rw [pies_length, hR]; simp [rns]
  have hR4 : R.length ≤ 4096 := by have := pcs_len s.data.toList; rw [pies_length] at hRl; simp at this; omega
  rw [← hR] at hl hok
  have HOk := Lib.hid hok
  have HL := Lib.hid hl
  have HR := Lib.hid hR
  have HP := Lib.hid (fun W => pieces_any s W (by omega))
  have HNe := Lib.hid hne0
  have HRl := Lib.hid hRl
  have HIs := Lib.hid (fun (x : ByteArray) W => is_any x W)
  clear hB0 hr0 hok hn hl hR hne0 hRl
  go_enter Tryd.func9, Tryd.ntmps9
  go_wp2_with fail
  rw [← hW0]
  clear hW0
  refine HV.out.mono ?_
  rintro e w1 ⟨hB1, ⟨-, rfl⟩ | ⟨q, hq, rfl⟩⟩
  case inr => exact absurd HN.out (badAt_not hq)
  have HR1 := Lib.hid (HR0.out.below hB1 HR0.out.lt)
  have HB1 := Lib.hid (HB0.out.trans (hB1.mono HB0.out.size))
  clear hB1 HV HR0 HB0
  go_wp2_with fail
  obtain ⟨w2, hw2⟩ : ∃ w2, w2 = w1.alloc (.cells #[.int .i64 0, .bool false, .bool false, .int .i64 0, .int .i64 0] 30) := ⟨_, rfl⟩
  have hr2 : Blk5 w2 w1.heap.size 0 0 false := by rw [hw2]; exact heap_alloc_new w1 _
  have hr2' : Blk5 w2 w.heap.size 0 0 false := by rw [hw2]; exact HR1.out.alloc _
  have hB2 : Below w.heap.size w w2 := by rw [hw2]; exact HB1.out.alloc HB1.out.size _
  have hz2 : w2.heap.size = w1.heap.size + 1 := by rw [hw2]; simp
  rw [← hw2]
  clear hw2
  refine (HP.out w2).mono ?_
  rintro e w3 ⟨v, rfl, hO, hB3⟩
  rw [HNe.out] at hO
  obtain ⟨A, c, rfl⟩ := hO.slice
  have hR0 : R.length = 0 := by have := HRl.out; rw [HNe.out] at this; exact this.symm
  have HE0 : Hid (l = [(⟨0, 0, [], 0⟩ : Tk)] ∧ f = none) := Lib.hid (by
    have hRn : R = [] := List.eq_nil_of_length_eq_zero hR0
    have h0 : rd R 0 = .tok ⟨0, 0, [], 0⟩ 0 := by
      rw [hRn]
      have h1 : sk [] 0 = 0 := Nat.le_zero.1 (sk_le [] 0)
      unfold rd
      rw [h1]
      exact if_pos rfl
    have := HL.out
    rw [lx_end h0 rfl] at this
    exact ⟨congrArg Prod.fst this, congrArg Prod.snd this⟩)
  have hz3 : w1.heap.size < w3.heap.size := Nat.lt_of_lt_of_le (by omega) hB3.size
  have hlt : w.heap.size < w1.heap.size := HR1.out.lt
  have hr3 : Blk5 w3 w1.heap.size 0 0 false := hr2.below hB3 (by omega)
  have hr3' : Blk5 w3 w.heap.size 0 0 false := hr2'.below hB3 (by omega)
  have HB3 := Lib.hid (hB2.trans (hB3.mono hB2.size))
  obtain ⟨v6, w6, hrun, hO6, hB6, -, -⟩ := append_ow_one (base := w3.heap.size) LUat ⟨0, 0, [], 0⟩ (Ow.nil LU w3.drew w3.heap.size) (by simp) (Nat.le_refl _)
  obtain ⟨A6, c6, rfl⟩ := hO6.slice
  have hrun2 : ∀ ty, (Builtin.append_ #[28, 28] ty #[.slice none 0 0, .slice (some ⟨w3.heap.size, 0, none⟩) 1 1]).run Tryd.prog (w3.drew.alloc (.cells #[.int .i64 0, .int .i64 0, .string { data := #[] }, .int .i64 0] 38)) = .ok (.slice A6 1 c6) w6 := hrun
  have hB36 : Below w3.heap.size w3 w6 := ((Below.refl w3.heap.size w3).drew).trans hB6
  obtain ⟨⟨b0, b1, b2, b3, b4⟩, -⟩ := blk5 hr3
  obtain ⟨⟨d0, d1, d2, d3, d4⟩, e0, e1, e2, e3, e4⟩ := blk5 hr3'
  have hb6 : Blk5 w6 w1.heap.size 0 0 false := hr3.below hB36 hz3
  have hr6 : Blk5 w6 w.heap.size 0 0 false := hr3'.below hB36 (by omega)
  obtain ⟨⟨k0, k1, k2, k3, k4⟩, -⟩ := blk5 hb6
  obtain ⟨⟨m0, m1, m2, m3, m4⟩, n0, n1', n2', n3, n4⟩ := blk5 hr6
  obtain ⟨r1, r2, r3⟩ := ul_ret hO6 (HB3.out.trans (hB36.mono HB3.out.size)) hr6 (by omega) 0 0 false
  have HFin := Lib.hid (⟨r1, r2⟩ : _ ∧ _)
  obtain ⟨WF, hWF⟩ : ∃ WF, WF = set5 w6 w.heap.size 0 0 false := ⟨_, rfl⟩
  rw [← hWF] at HFin r3
  have HR3F := Lib.hid r3
  unfold set5 at hWF
  have HRun := Lib.hid hrun2
  have n1 : ¬ w1.heap.size = w.heap.size := by omega
  have n2 : ¬ w.heap.size = w1.heap.size := by omega
  clear hrun hrun2 hO6 hB6 hB36 hb6 hr6 r1 r2 r3 hr2 hr2' hB2 hB3 hr3 hr3' hO hR0 HP HNe HRl HR1 HB1 hR4
  go_wp2_with fail
  refine wp_loop_rounds 1 ?_
  rw [rounds_succ]
  go_wp2_with fail
  refine (rskip_nil _ _ _).mono ?_
  rintro e w' ⟨rfl, rfl⟩
  go_wp2
  go_region_held3 (fun W => W.cell? ⟨w1.heap.size, 0, none⟩ = some (.int .i64 0) ∧ W.cell? ⟨w1.heap.size, 1, none⟩ = some (.bool false) ∧ W.cell? ⟨w1.heap.size, 2, none⟩ = some (.bool false) ∧ W.cell? ⟨w1.heap.size, 3, none⟩ = some (.int .i64 0) ∧ W.cell? ⟨w1.heap.size, 4, none⟩ = some (.int .i64 0)) (go_keep)
    (refine step_append_run rfl _ _ 28 28 rfl _ _ rfl rfl _ _ (HRun.out _) ?_)
  all_goals
    rw [← hWF]
    obtain ⟨⟨d0, d1, d2, d3, d4⟩, _⟩ := blk5 HR3F.out
    go_wp2
    refine bodyPost_ret (v := .tuple #[.slice A6 1 c6, fault 0 false false 0 0]) (by simp [results, Tryd.results9, go_sem, d0, d1, d2, d3, d4]) rfl ⟨.slice A6 1 c6, ?_, ?_, HFin.out.2⟩
    · rw [HE0.out.2]; rfl
    · rw [HE0.out.1]; exact HFin.out.1
theorem rall_any (s : ByteArray) (l : List Tk) (f : Option (Nat × Nat)) (w : World) (hs : s.size ≤ 4096) (hL : LexIs s l f) : Calls Tryd.prog 9 #[.string s] w (RetUl w l f) := by
  rcases hL with ⟨hn, hl⟩ | ⟨p, hb, rfl, rfl⟩
  · by_cases h0 : pies 0 (pcs s.data.toList) = []
    · exact rall_empty s l f w hs hn hl h0
    · exact rall_good s l f w hs hn hl h0
  · exact rall_bad s p w hs hb
theorem lexIs_ex (s : ByteArray) : ∃ l f, LexIs s l f := by
  by_cases h : noBad s
  · exact ⟨_, _, .inl ⟨h, rfl⟩⟩
  · have key : ∀ L : List (Nat × Nat), (∃ d ∈ L, badD d = true) → ∃ a d r, L = a ++ d :: r ∧ (∀ x ∈ a, badD x = false) ∧ badD d = true := by
      intro L
      induction L with
      | nil => rintro ⟨d, hd, _⟩; cases hd
      | cons y r ih =>
        rintro ⟨d, hd, hb⟩
        cases hy : badD y
        · obtain ⟨a, d2, r2, e, h1, h2⟩ := ih (by
            rcases List.mem_cons.1 hd with rfl | hd
            · rw [hy] at hb; cases hb
            · exact ⟨d, hd, hb⟩)
          exact ⟨y :: a, d2, r2, by rw [e]; rfl, fun x hx => by
            rcases List.mem_cons.1 hx with rfl | hx
            · exact hy
            · exact h1 x hx, h2⟩
        · exact ⟨[], y, r, rfl, (fun x hx => by cases hx), hy⟩
    obtain ⟨a, d, r, e, h1, h2⟩ := key (pcs s.data.toList) (by
      refine Classical.byContradiction fun hc => h fun d hd => ?_
      cases hb : badD d
      · rfl
      · exact absurd ⟨d, hd, hb⟩ hc)
    exact ⟨[], some (4, a.length), .inr ⟨a.length, ⟨a, d, r, e, rfl, h1, h2⟩, rfl, rfl⟩⟩
theorem lexIs_len {s : ByteArray} {l : List Tk} {f : Option (Nat × Nat)} (h : LexIs s l f) (hs : s.size ≤ 4096) : l.length ≤ 4097 := by
  rcases h with ⟨hn, h⟩ | ⟨p, _, rfl, _⟩
  · obtain ⟨hok, -⟩ := noBad.rns hn
    have h1 := lx_length hok _ 0 (Nat.le_refl _) (Nat.zero_le _)
    rw [← h] at h1
    have := pcs_len s.data.toList
    unfold rns at h1
    simp at h1 this
    omega
  · simp
theorem lexIs_ne {s : ByteArray} {l : List Tk} (h : LexIs s l none) : l ≠ [] := by
  rcases h with ⟨_, h⟩ | ⟨_, _, _, h⟩
  · rintro rfl
    rw [lx] at h
    cases hr : rd (rns s.data.toList) 0 with
    | bad c2 q => rw [hr] at h; cases h
    | tok t e =>
      rw [hr] at h
      simp only at h
      split at h <;> cases h
  · cases h

set_option maxRecDepth 100000 in
set_option maxHeartbeats 4000000 in
theorem lexSays_raw (s : ByteArray) (w : World) (ads : List Addr) (er : Nat → Addr) (hS : Sents w ads) (hE : Lerr w er) (hA : ∀ i, i < 21 → ads[i]? = some (er i)) :
    Calls Tryd.prog 3 #[.string s] w (RetYes w) := by
  have HF := Lib.hid (lfirst_any er w hE)
  by_cases hbig : 400 < s.size
  · have hbigI : (400 : Int) < (s.size : Int) := by omega
    clear hbig hS hE hA
    go_enter Tryd.func3, Tryd.ntmps3
    go_wp2_with fail
    refine HF.out.mono ?_
    rintro e w1 ⟨rfl, hB1⟩
    have HB1 := Lib.hid hB1
    clear hB1
    go_wp2
    go_ret
    exact ⟨rfl, HB1.out⟩
  · have hbigI : (s.size : Int) ≤ 400 := by omega
    have hs : s.size ≤ 4096 := by omega
    obtain ⟨l, f, hL⟩ := lexIs_ex s
    have hll := lexIs_len hL hs
    have HS := Lib.hid hS
    have HE := Lib.hid hE
    have HA := Lib.hid hA
    have HL := Lib.hid hL
    clear hbig hS hE hA hL
    go_enter Tryd.func3, Tryd.ntmps3
    go_wp2_with fail
    refine HF.out.mono ?_
    rintro e w1 ⟨rfl, hB1⟩
    have HB1 := Lib.hid hB1
    have HAll := Lib.hid (all_any s hs er l f HL.out (by omega) w1 (HE.out.below hB1))
    clear hB1 HF
    go_wp2_with fail
    refine HAll.out.mono ?_
    rintro e w2 ⟨hB2, hres⟩
    have HB2 := Lib.hid (HB1.out.trans (hB2.mono HB1.out.size))
    have HRl := Lib.hid (rall_any s l f w2 hs HL.out)
    clear hB2 HAll
    cases f with
    | none =>
      obtain ⟨v, rfl, hO⟩ := hres
      obtain ⟨A1, c1, rfl⟩ := hO.slice
      obtain ⟨fc, hfc⟩ : ∃ fc : Int, fc = 0 := ⟨_, rfl⟩
      obtain ⟨fp, hfp⟩ : ∃ fp : Int, fp = 0 := ⟨_, rfl⟩
      have HFc := Lib.hid (⟨hfc, hfp⟩ : _ ∧ _)
      have HCm := Lib.hid (fun (A : Option Addr) (c : Nat) (W : World) (base : Nat) (h1 : Ow LU W base (.slice A l.length c) l) (h2 : Below w.heap.size w W) => comes_any s hs l none HL.out (by omega) A c W base h1 ads er (HS.out.later h2) (HE.out.below h2) HA.out)
      have hft : ftV none = fault fc false false fp 0 := by rw [hfc, hfp]; rfl
      rw [hft] at HCm
      have HSf : Hid (∀ W : World, w2.heap.size ≤ W.heap.size → Below w.heap.size w W → Below w2.heap.size w2 W → Calls Tryd.prog 10 #[.nilIface, fault fc false false fp 0] W (RetB W (.bool true))) := Lib.hid (by rw [hfc, hfp]; exact (fun (W : World) (_ : w2.heap.size ≤ W.heap.size) (_ : Below w.heap.size w W) (_ : Below w2.heap.size w2 W) => same_fault W .nilIface 0 0 false (fun W' _ => fault_nil W')))
      have hfc0 : (fc == 0) = true := by rw [hfc]; rfl
      clear hft hfc hfp
      obtain ⟨ln, hln⟩ : ∃ ln, ln = l.length := ⟨_, rfl⟩
      have HLn := Lib.hid hln
      rw [← hln] at hll HCm hO ⊢
      clear hln
      have HRl2 : Hid (Calls Tryd.prog 9 #[.string s] w2 (fun e W => ∃ (A : Option Addr) (c : Nat), e = .returned (.tuple #[.slice A ln c, fault fc false false fp 0]) ∧ Ow LU W w2.heap.size (.slice A ln c) l ∧ Below w2.heap.size w2 W)) := Lib.hid (HRl.out.mono fun e W ⟨v, h1, h2, h3⟩ => by
        obtain ⟨A, c, rfl⟩ := h2.slice
        rw [← HLn.out] at h1 h2
        refine ⟨A, c, ?_, h2, h3⟩
        rw [h1, HFc.out.1, HFc.out.2]
        rfl)
      clear HRl
      go_wp2_with fail
      refine HRl2.out.mono ?_
      rintro e w3 ⟨A2, c2, rfl, hO2, hB3⟩
      obtain ⟨w4, hw4⟩ : ∃ w4, w4 = w3.alloc (.cells #[.int .i64 fc, .bool false, .bool false, .int .i64 fp, .int .i64 0] 30) := ⟨_, rfl⟩
      have hB34 : Below w3.heap.size w3 w4 := by rw [hw4]; exact (Below.refl _ _).alloc (Nat.le_refl _) _
      have hb4 : Blk5 w4 w3.heap.size fc fp false := by rw [hw4]; exact heap_alloc_new w3 _
      have hs3 := hB3.size
      have HB4 := Lib.hid (HB2.out.trans ((hB3.mono HB2.out.size).trans (hB34.mono (Nat.le_trans HB2.out.size hs3))))
      have HO4 := Lib.hid (hO2.below hB34 (Nat.le_refl _))
      have HB24 := Lib.hid (hB3.trans (hB34.mono hs3))
      have Hb4 := Lib.hid hb4
      have hz4 : w3.heap.size < w4.heap.size := hb4.lt
      have HSm := Lib.hid (HSf.out w4 (Nat.le_trans hB3.size hB34.size) HB4.out HB24.out)
      have HCm1 := Lib.hid (fun (W : World) (h : Below w4.heap.size w4 W) => HCm.out A2 c2 W w2.heap.size (HO4.out.below h (Nat.le_refl _)) (HB4.out.trans (h.mono HB4.out.size)))
      obtain ⟨⟨k0, k1, k2, k3, k4⟩, -⟩ := blk5 hb4
      clear hO2 hB3 hB34 hb4 HRl2 HCm HSf hs3
      go_wp2_with fail
      rw [← hw4]
      clear hw4
      go_wp2_with fail
      refine HSm.out.mono ?_
      rintro e w5 ⟨rfl, hB5⟩
      obtain ⟨⟨p0, p1, p2, p3, p4⟩, -⟩ := blk5 (Hb4.out.below hB5 hz4)
      have HB5 := Lib.hid hB5
      clear hB5 k0 k1 k2 k3 k4
      go_wp2_with fail
      refine (HCm1.out _ HB5.out).mono ?_
      rintro e w6 ⟨rfl, hB6⟩
      have HB6 := Lib.hid (HB5.out.trans (hB6.mono HB5.out.size))
      obtain ⟨⟨q0, q1, q2, q3, q4⟩, -⟩ := blk5 (Hb4.out.below HB6.out hz4)
      clear hB6 p0 p1 p2 p3 p4
      go_wp2_with fail
      refine (HCm1.out _ HB6.out).mono ?_
      rintro e w7 ⟨rfl, hB7⟩
      have HB7 := Lib.hid (HB6.out.trans (hB7.mono HB6.out.size))
      have r0 : w7.cell? ⟨w3.heap.size, 0, none⟩ = some (.int .i64 fc) := (Hb4.out.below HB7.out hz4).cell 0
      clear hB7 q0 q1 q2 q3 q4
      have HOa : Hid (Ow LT w7 w1.heap.size (.slice A1 ln c1) l) := Lib.hid (hO.below (HB24.out.trans (HB7.out.mono HB24.out.size)) (Nat.le_refl _))
      have HOb : Hid (Ow LU w7 w2.heap.size (.slice A2 ln c2) l) := Lib.hid (HO4.out.below HB7.out (Nat.le_refl _))
      have HBw := Lib.hid (HB4.out.trans (HB7.out.mono HB4.out.size))
      have hs7 : w.heap.size ≤ w7.heap.size := HBw.out.size
      have hne : l ≠ [] := lexIs_ne HL.out
      obtain ⟨g1, d1, hv1, -, hg1, -, hcell1⟩ := HOa.out.at_ hne
      obtain ⟨g2, d2, hv2, -, hg2, -, hcell2⟩ := HOb.out.at_ hne
      obtain rfl : A1 = some ⟨g1, 0, none⟩ := by cases hv1; rfl
      obtain rfl : A2 = some ⟨g2, 0, none⟩ := by cases hv2; rfl
      have HCe := Lib.hid (⟨hcell1, hcell2⟩ : _ ∧ _)
      clear hO hne hv1 hv2 hcell1 hcell2
      go_wp2_with fail
      rw [show (fc != 0) = false from by unfold bne; rw [hfc0]; rfl]
      clear hfc0
      go_loopw [8] (fun i wr => ∃ k : Nat, k ≤ ln ∧ i = .int .i64 (k : Int) ∧ Below w7.heap.size w7 wr) (fun i _ => ln - (RowKit.intOf i).toNat)
      case atStart => exact ⟨0, Nat.zero_le _, rfl, Below.refl _ _⟩
      case round =>
        clear r0
        obtain ⟨k, hk, rfl, hb⟩ := hrel
        by_cases hp : k < ln
        · have hkl : k < l.length := by rw [← HLn.out]; exact hp
          have hkI : (k : Int) < (ln : Int) := by omega
          have hc1 := HCe.out.1 k hkl
          have hc2 := HCe.out.2 k hkl
          obtain ⟨t, ht⟩ : ∃ t, t = l[k] := ⟨_, rfl⟩
          rw [← ht] at hc1 hc2
          obtain ⟨kind, pos, text, nn⟩ := t
          have hS : wr.cell? ⟨g1, k * 4, none⟩ = some (.int .i64 (kind : Int)) ∧ wr.cell? ⟨g1, k * 4 + 1, none⟩ = some (.int .i64 (pos : Int)) ∧ wr.cell? ⟨g1, k * 4 + 2, none⟩ = some (.string ⟨text.toArray⟩) ∧ wr.cell? ⟨g1, k * 4 + 3, none⟩ = some (.int .i64 (nn : Int)) ∧ wr.cell? ⟨g2, k * 4, none⟩ = some (.int .i64 (kind : Int)) ∧ wr.cell? ⟨g2, k * 4 + 1, none⟩ = some (.int .i64 (pos : Int)) ∧ wr.cell? ⟨g2, k * 4 + 2, none⟩ = some (.string ⟨text.toArray⟩) ∧ wr.cell? ⟨g2, k * 4 + 3, none⟩ = some (.int .i64 (nn : Int)) :=
            ⟨(hb.cell (p := ⟨g1, k * 4, none⟩) hg1).trans (hc1 0 _ rfl), (hb.cell (p := ⟨g1, k * 4 + 1, none⟩) hg1).trans (hc1 1 _ rfl), (hb.cell (p := ⟨g1, k * 4 + 2, none⟩) hg1).trans (hc1 2 _ rfl), (hb.cell (p := ⟨g1, k * 4 + 3, none⟩) hg1).trans (hc1 3 _ rfl),
             (hb.cell (p := ⟨g2, k * 4, none⟩) hg2).trans (hc2 0 _ rfl), (hb.cell (p := ⟨g2, k * 4 + 1, none⟩) hg2).trans (hc2 1 _ rfl), (hb.cell (p := ⟨g2, k * 4 + 2, none⟩) hg2).trans (hc2 2 _ rfl), (hb.cell (p := ⟨g2, k * 4 + 3, none⟩) hg2).trans (hc2 3 _ rfl)⟩
          obtain ⟨a0, a1, a2, a3, b0, b1, b2, b3⟩ := hS
          have HSm := Lib.hid (fun W => sameToken_eq ⟨kind, pos, text, nn⟩ W)
          dsimp only [tkV] at HSm
          have Hb := Lib.hid hb
          clear hc1 hc2 ht hb
          go_wp2_with fail
          go_region_held3 (fun W => W.cell? ⟨g1, k * 4, none⟩ = some (.int .i64 (kind : Int)) ∧ W.cell? ⟨g1, k * 4 + 1, none⟩ = some (.int .i64 (pos : Int)) ∧ W.cell? ⟨g1, k * 4 + 2, none⟩ = some (.string ⟨text.toArray⟩) ∧ W.cell? ⟨g1, k * 4 + 3, none⟩ = some (.int .i64 (nn : Int)) ∧ W.cell? ⟨g2, k * 4, none⟩ = some (.int .i64 (kind : Int)) ∧ W.cell? ⟨g2, k * 4 + 1, none⟩ = some (.int .i64 (pos : Int)) ∧ W.cell? ⟨g2, k * 4 + 2, none⟩ = some (.string ⟨text.toArray⟩) ∧ W.cell? ⟨g2, k * 4 + 3, none⟩ = some (.int .i64 (nn : Int))) (go_keep)
            (first | (go_at_call 12; refine (HSm.out _).mono ?_; rintro e w9 ⟨rfl, hB9'⟩; have hB9 : Below wr.heap.size wr w9 := ((Below.refl wr.heap.size wr).drew).trans hB9'; have HB9 := Lib.hid (Hb.out.trans (hB9.mono Hb.out.size)); have cb := fun (p : Addr) (u : Value) (hu : wr.cell? p = some u) => (hB9.cell (World.block_lt_of_cell? _ _ hu)).trans hu; have x0 := cb _ _ a0; have x1 := cb _ _ a1; have x2 := cb _ _ a2; have x3 := cb _ _ a3; have y0 := cb _ _ b0; have y1 := cb _ _ b1; have y2 := cb _ _ b2; have y3 := cb _ _ b3; clear cb hB9 hB9'))
          go_wp2
          go_roundw
          case rel => exact ⟨k + 1, by omega, by go_num, HB9.out⟩
          case measure => simp [RowKit.intOf]; omega
        · have Hb := Lib.hid hb
          clear hb
          go_wp2
          go_ret
          exact ⟨rfl, HBw.out.trans (Hb.out.mono hs7)⟩
    | some cp =>
      obtain ⟨cq, pq⟩ := cp
      obtain ⟨b, rfl, hb⟩ := hres
      have hb : Blk w2 b 87 #[.int .i64 (pq : Int), .iface 186 (.pointer (some (er cq)))] := hb
      obtain ⟨fc, hfc⟩ : ∃ fc : Int, fc = 101 + (cq : Int) := ⟨_, rfl⟩
      obtain ⟨fp, hfp⟩ : ∃ fp : Int, fp = (pq : Int) := ⟨_, rfl⟩
      have HFc := Lib.hid (⟨hfc, hfp⟩ : _ ∧ _)
      have HCm := Lib.hid (fun (A : Option Addr) (c : Nat) (W : World) (base : Nat) (h1 : Ow LU W base (.slice A l.length c) l) (h2 : Below w.heap.size w W) => comes_any s hs l (some (cq, pq)) HL.out (by omega) A c W base h1 ads er (HS.out.later h2) (HE.out.below h2) HA.out)
      have hft : ftV (some (cq, pq)) = fault fc true false fp 0 := by rw [hfc, hfp]; rfl
      rw [hft] at HCm
      have HSf : Hid (∀ W : World, w2.heap.size ≤ W.heap.size → Below w.heap.size w W → Below w2.heap.size w2 W → Calls Tryd.prog 10 #[.iface 85 (.pointer (some ⟨b, 0, none⟩)), fault fc true false fp 0] W (RetB W (.bool true))) := Lib.hid (by rw [hfc, hfp]; exact (fun (W : World) (_ : w2.heap.size ≤ W.heap.size) (hW : Below w.heap.size w W) (hW2 : Below w2.heap.size w2 W) => same_fault W (.iface 85 (.pointer (some ⟨b, 0, none⟩))) (101 + (cq : Int)) (pq : Int) true (fun W' hW' => by have := fault_placed W' ads (cc cq) b (er (cc cq)) (pq : Int) (HS.out.later (hW.trans (hW'.mono hW.size))) (HA.out _ (cc_lt cq)) (by rw [lexIs_code HL.out]; exact (hb.below hW2 hb.lt).below hW' (Nat.lt_of_lt_of_le hb.lt hW2.size)); rw [lexIs_code HL.out] at this; exact this)))
      have hfc0 : (fc == 0) = false := beq_eq_false_iff_ne.2 (by omega)
      clear hft hfc hfp
      obtain ⟨ln, hln⟩ : ∃ ln, ln = l.length := ⟨_, rfl⟩
      have HLn := Lib.hid hln
      rw [← hln] at hll HCm
      clear hln
      have HRl2 : Hid (Calls Tryd.prog 9 #[.string s] w2 (fun e W => ∃ (A : Option Addr) (c : Nat), e = .returned (.tuple #[.slice A ln c, fault fc true false fp 0]) ∧ Ow LU W w2.heap.size (.slice A ln c) l ∧ Below w2.heap.size w2 W)) := Lib.hid (HRl.out.mono fun e W ⟨v, h1, h2, h3⟩ => by
        obtain ⟨A, c, rfl⟩ := h2.slice
        rw [← HLn.out] at h1 h2
        refine ⟨A, c, ?_, h2, h3⟩
        rw [h1, HFc.out.1, HFc.out.2]
        rfl)
      clear HRl
      go_wp2_with fail
      refine HRl2.out.mono ?_
      rintro e w3 ⟨A2, c2, rfl, hO2, hB3⟩
      obtain ⟨w4, hw4⟩ : ∃ w4, w4 = w3.alloc (.cells #[.int .i64 fc, .bool true, .bool false, .int .i64 fp, .int .i64 0] 30) := ⟨_, rfl⟩
      have hB34 : Below w3.heap.size w3 w4 := by rw [hw4]; exact (Below.refl _ _).alloc (Nat.le_refl _) _
      have hb4 : Blk5 w4 w3.heap.size fc fp true := by rw [hw4]; exact heap_alloc_new w3 _
      have hs3 := hB3.size
      have HB4 := Lib.hid (HB2.out.trans ((hB3.mono HB2.out.size).trans (hB34.mono (Nat.le_trans HB2.out.size hs3))))
      have HO4 := Lib.hid (hO2.below hB34 (Nat.le_refl _))
      have HB24 := Lib.hid (hB3.trans (hB34.mono hs3))
      have Hb4 := Lib.hid hb4
      have hz4 : w3.heap.size < w4.heap.size := hb4.lt
      have HSm := Lib.hid (HSf.out w4 (Nat.le_trans hB3.size hB34.size) HB4.out HB24.out)
      have HCm1 := Lib.hid (fun (W : World) (h : Below w4.heap.size w4 W) => HCm.out A2 c2 W w2.heap.size (HO4.out.below h (Nat.le_refl _)) (HB4.out.trans (h.mono HB4.out.size)))
      obtain ⟨⟨k0, k1, k2, k3, k4⟩, -⟩ := blk5 hb4
      clear hO2 hB3 hB34 hb4 HRl2 HCm HSf hs3
      go_wp2_with fail
      rw [← hw4]
      clear hw4
      go_wp2_with fail
      refine HSm.out.mono ?_
      rintro e w5 ⟨rfl, hB5⟩
      obtain ⟨⟨p0, p1, p2, p3, p4⟩, -⟩ := blk5 (Hb4.out.below hB5 hz4)
      have HB5 := Lib.hid hB5
      clear hB5 k0 k1 k2 k3 k4
      go_wp2_with fail
      refine (HCm1.out _ HB5.out).mono ?_
      rintro e w6 ⟨rfl, hB6⟩
      have HB6 := Lib.hid (HB5.out.trans (hB6.mono HB5.out.size))
      obtain ⟨⟨q0, q1, q2, q3, q4⟩, -⟩ := blk5 (Hb4.out.below HB6.out hz4)
      clear hB6 p0 p1 p2 p3 p4
      go_wp2_with fail
      refine (HCm1.out _ HB6.out).mono ?_
      rintro e w7 ⟨rfl, hB7⟩
      have HB7 := Lib.hid (HB6.out.trans (hB7.mono HB6.out.size))
      have r0 : w7.cell? ⟨w3.heap.size, 0, none⟩ = some (.int .i64 fc) := (Hb4.out.below HB7.out hz4).cell 0
      clear hB7 q0 q1 q2 q3 q4
      go_wp2
      go_ret
      exact ⟨rfl, HB4.out.trans (HB7.out.mono HB4.out.size)⟩
theorem lexSays_walk (s : ByteArray) (w : World) (_ : s.size ≤ maxLen) (hL : laidMetH Tryd.prog laid26 w) :
    Calls Tryd.prog 3 #[.string s] w (RetYes w) := by
  obtain ⟨ads, er, hS, hE, hA, -⟩ := of26 hL
  exact lexSays_raw s w ads er hS hE hA
end Go.Proofs.YtndagbmcdpafjaaDoor
