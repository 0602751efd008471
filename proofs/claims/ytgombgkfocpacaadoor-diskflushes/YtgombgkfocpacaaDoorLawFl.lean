/-
  The walk of DiskFlushes. Conditions: each theorem's own premises.
-/
import Derived.Test.YtgombgkfocpacaaDoorDkIs
import Derived.Test.YtgombgkfocpacaaDoorNumb
namespace Go.Proofs.YtgombgkfocpacaaDoor
open Go.RowKit Go.Maps

/-- What was flushed last, by the sector; 0: nothing was. -/
def FlS (k : Nat) (H : List Nat) (s : DS) : Prop :=
  s.pend = [] ∧ s.calls = 2 * (k : Int) ∧ s.armed = 0 ∧ s.down = false ∧ s.kept.length = 12 ∧ H.length = 12 ∧ ∀ j, j < 12 → H.getD j 0 ≤ k ∧ s.kept.getD j none = if H.getD j 0 = 0 then none else some [UInt8.ofNat (H.getD j 0)]
/-- The numbers as cells. -/
def numC (H : List Nat) : Array Value := (H.map fun (n : Nat) => Value.int .i64 (n : Int)).toArray

/-- The state behind a write, a flush and a crash. -/
def flN (s : DS) (j : Nat) (b : List UInt8) (zs : List Int) : DS := crashD (flushD { s with pend := insP (j : Int) b s.pend, calls := s.calls + 1, armed := powA s.armed, down := false }) zs
theorem flS_step {k j : Nat} {H : List Nat} {s : DS} {zs : List Int} (h : FlS k H s) (hj : j < 12) : FlS (k + 1) (H.set j (k + 1)) (flN s j [UInt8.ofNat (k + 1)] zs) := by
  obtain ⟨h1, h2, h3, h4, h5, h6, h7⟩ := h
  refine ⟨rfl, ?_, rfl, rfl, ?_, by rw [List.length_set]; exact h6, fun i hi => ?_⟩
  · show s.calls + 1 + 1 = _
    rw [h2]
    push_cast
    omega
  · show (flushK _).length = 12
    simp [flushK, h5]
  · have hk : (flN s j [UInt8.ofNat (k + 1)] zs).kept.getD i none = if j = i then some [UInt8.ofNat (k + 1)] else s.kept.getD i none := by
      show (flushK _).getD i none = _
      have : ∀ (d : DS), d.kept.length = 12 → (flushK d).getD i none = lookD d i := fun d hd => by simp [flushK, List.getD, hd, hi]
      refine (this { s with pend := insP (j : Int) [UInt8.ofNat (k + 1)] s.pend, calls := s.calls + 1, armed := powA s.armed, down := false } h5).trans ?_
      show (match getP (i : Int) (insP (j : Int) [UInt8.ofNat (k + 1)] s.pend) with | some b => some b | none => s.kept.getD i none) = _
      rw [getP_ins (by rw [h1]; exact List.Pairwise.nil), h1]
      by_cases e : j = i
      · rw [if_pos (by omega), if_pos e]
      · rw [if_neg (by omega), if_neg e]
        rfl
    rw [hk]
    by_cases e : j = i
    · subst e
      have : (H.set j (k + 1)).getD j 0 = k + 1 := by simp [List.getD, List.getElem?_set_self (show j < H.length by omega)]
      rw [this, if_pos rfl, if_neg (by omega)]
      exact ⟨Nat.le_refl _, rfl⟩
    · have : (H.set j (k + 1)).getD i 0 = H.getD i 0 := by simp [List.getD, List.getElem?_set_ne e]
      rw [this, if_neg e]
      exact ⟨by have := (h7 i hi).1; omega, (h7 i hi).2⟩
theorem numC_set (H : List Nat) (j n : Nat) : (numC H).setIfInBounds j (.int .i64 (n : Int)) = numC (H.set j n) := by
  unfold numC
  rw [List.map_set]
  simp
theorem numC_at (H : List Nat) (j : Nat) (h : j < H.length) : (numC H)[j]? = some (.int .i64 (H.getD j 0 : Nat)) := by
  unfold numC
  simp [h]
theorem own_ne_blk {w : World} {m n g : Nat} {D : DataW Unit} {t : TypeId} {cs : Array Value} (h : w.ownsMap Tryd.prog 3 contR m n D) (hb : Blk w g t cs) : m ≠ g := by
  obtain ⟨es, clock, hm, _⟩ := h
  rintro rfl
  unfold Blk at hb
  rw [hb] at hm
  cases hm

theorem flS_zero (j : Nat) (hj : j < 12) : (List.replicate 12 0).getD j 0 ≤ 0 ∧ (newD 12).kept.getD j none = if (List.replicate 12 0).getD j 0 = 0 then none else some [UInt8.ofNat ((List.replicate 12 0).getD j 0)] := by
  have e1 : (List.replicate 12 0).getD j 0 = 0 := by rw [List.getD, List.getElem?_replicate, if_pos hj]; rfl
  have e2 : (newD 12).kept.getD j none = none := by show (List.replicate 12 none).getD j none = none; rw [List.getD, List.getElem?_replicate, if_pos hj]; rfl
  rw [e1, e2]
  exact ⟨Nat.le_refl _, rfl⟩
theorem ints_below {w w' : World} {A : Option Addr} {l : List Int} (h : Ints w w.heap.size A l) (hB : Below w.heap.size w w') : Ints w' w.heap.size A l :=
  h.fr ((Fr.refl [] w).belows hB (Nat.le_refl _)) (Nat.le_refl _) (by simp)
/-- Where the first loop stands. -/
def FlR1 (w : World) (g f h n : Nat) (i : Value) (wr : World) : Prop :=
  ∃ (k m : Nat) (s : DS) (H : List Nat), k ≤ n ∧ i = .int .i64 (k : Int) ∧ w.heap.size ≤ m ∧ Dk wr g f m s ∧ FlS k H s ∧ Blk wr h 3 (numC H) ∧ Below w.heap.size w wr
/-- Where the second stands. -/
def FlR2 (w : World) (g f m h : Nat) (s : DS) (H : List Nat) (i : Value) (wr : World) : Prop :=
  ∃ k : Nat, k ≤ 12 ∧ i = .int .i64 (k : Int) ∧ Dk wr g f m s ∧ Blk wr h 3 (numC H) ∧ Below w.heap.size w wr

theorem infoI : (Tryd.prog.info? 3).map (fun i => (i.zero, i.size, i.bytes)) = some (some (.int .i64 0), 1, 8) := by kernel_rfl
/-- Twelve numbers, all 0. -/
def zero12 : Array Value := madeCells #[.int .i64 0] 12
theorem zero12_eq : zero12 = numC (List.replicate 12 0) := by
  refine Array.ext_getElem? fun j => ?_
  unfold zero12
  by_cases h : j < 12
  · rw [made_cell _ _ _ h, numC_at _ _ (by simpa using h)]
    have e1 : j % 1 = 0 := by omega
    show some (#[Value.int .i64 0][j % 1]!) = _
    rw [e1]
    have : (List.replicate 12 0).getD j 0 = 0 := by rw [List.getD, List.getElem?_replicate, if_pos h]; rfl
    rw [this]
    rfl
  · rw [Array.getElem?_eq_none (by rw [size_madeCells]; omega), Array.getElem?_eq_none (by simp [numC]; omega)]
theorem make_ints (w : World) : (Instr.makeSlice 34 (.int .i64 12) (.int .i64 12)).run Tryd.prog w = .ok (.slice (some ⟨w.heap.size, 0, none⟩) 12 12) (w.alloc (.cells zero12 3)) := by
  obtain ⟨i, hi, hz, hs, hb⟩ := info_parts infoI
  have := run_make (P := Tryd.prog) w 34 3 i _ Tryd.underlying34 hi hz .i64 .i64 12 12 (by omega) (by omega) (by rw [hb]; omega) (by omega)
  rw [this, hs]
  rfl

set_option maxRecDepth 100000 in
set_option maxHeartbeats 1000000 in
theorem diskFlushes_big (A1 A2 : Option Addr) (n1 c1 n2 c2 : Nat) (w : World) (h : 30 < n1 ∨ 12 < n2) :
    Calls Tryd.prog 8 #[.slice A1 n1 c1, .slice A2 n2 c2] w (RetYes w) := by
  by_cases h1 : 30 < n1
  · have h1' : (30 : Int) < n1 := by omega
    go_enter Tryd.func8, Tryd.ntmps8
    go_wp2_with fail
    refine (first_any w).mono ?_
    rintro e w1 ⟨rfl, hB1⟩
    go_wp2
    go_ret
    exact ⟨rfl, hB1⟩
  · have h1' : ¬ (30 : Int) < n1 := by omega
    have h2' : (12 : Int) < n2 := by omega
    go_enter Tryd.func8, Tryd.ntmps8
    go_wp2_with fail
    refine (first_any w).mono ?_
    rintro e w1 ⟨rfl, hB1⟩
    go_wp2
    go_ret
    exact ⟨rfl, hB1⟩

set_option maxRecDepth 100000 in
set_option maxHeartbeats 2000000 in
theorem diskFlushes_small (A1 A2 : Option Addr) (n1 c1 n2 c2 : Nat) (zs ps : List Int) (w : World) (h1 : n1 = zs.length) (h2 : n2 = ps.length) (hs1 : Ints w w.heap.size A1 zs) (hs2 : Ints w w.heap.size A2 ps) (hl1 : n1 ≤ 30) (hl2 : n2 ≤ 12) :
    Calls Tryd.prog 8 #[.slice A1 n1 c1, .slice A2 n2 c2] w (RetYes w) := by
  have i1 : ¬ (30 : Int) < n1 := by omega
  have i2 : ¬ (12 : Int) < n2 := by omega
  have H1 := Lib.hid h1
  have H2 := Lib.hid h2
  have S1 := Lib.hid hs1
  have S2 := Lib.hid hs2
  have hmk := fun W => make_ints W
  clear h1 h2 hs1 hs2
  go_enter Tryd.func8, Tryd.ntmps8
  go_wp2_with fail
  refine (first_any w).mono ?_
  rintro e w1 ⟨rfl, hB1⟩
  have HB1 := Lib.hid hB1
  clear hB1
  go_wp2_with fail
  refine (new_ok 12 w1 (by omega) (by omega)).mono ?_
  rintro e w2 ⟨g, f, m, rfl, hg, hf, hm, hD2, hB2⟩
  have HB2 := Lib.hid (HB1.out.trans (hB2.mono HB1.out.size))
  have hg' : w.heap.size ≤ g := Nat.le_trans HB1.out.size hg
  have hf' : w.heap.size ≤ f := Nat.le_trans HB1.out.size hf
  have hm' : w.heap.size ≤ m := Nat.le_trans HB1.out.size hm
  have hgl := hD2.gl
  have hfl := hD2.fl
  have HD2 := Lib.hid hD2
  clear hD2 hB2 HB1 hg hf hm
  go_wp2_with fail
  have hF3 : Fr [] w2 (w2.alloc (.cells zero12 3)) := (Fr.refl [] w2).alloc _
  have HD3 := Lib.hid (HD2.out.fr hF3 (by simp) (by simp) (by simp))
  have HN3 : Hid (Blk (w2.alloc (.cells zero12 3)) w2.heap.size 3 (numC (List.replicate 12 0))) := Lib.hid (by rw [← zero12_eq]; exact heap_alloc_new w2 _)
  have HB3 := Lib.hid (below_fr HB2.out hF3 HB2.out.size (by simp))
  have hh' : w.heap.size ≤ w2.heap.size := HB2.out.size
  have hgh : g ≠ w2.heap.size := by omega
  have hfh : f ≠ w2.heap.size := by omega
  generalize w2.alloc (.cells zero12 3) = w3 at *
  generalize w2.heap.size = h at *
  clear hF3 HD2 HB2 hmk
  go_loopw [9] (fun i wr => FlR1 w g f h n1 i wr) (fun i _ => n1 - (intOf i).toNat)
  case atStart => exact ⟨0, m, newD 12, List.replicate 12 0, Nat.zero_le _, rfl, hm', HD3.out, ⟨rfl, rfl, rfl, rfl, by simp [newD], by simp, fun j hj => flS_zero j hj⟩, HN3.out, HB3.out⟩
  case round =>
    obtain ⟨k, m4, s, H, hk, rfl, hm4, hDk, hS, hN, hB⟩ := hrel
    have HDk := Lib.hid hDk
    have HS := Lib.hid hS
    have HN := Lib.hid hN
    have HB := Lib.hid hB
    clear hDk hS hN hB
    by_cases hlt : k < n1
    · have hltI : (k : Int) < n1 := by omega
      obtain ⟨ad, rfl, hb, hc⟩ := S1.out.pick (k := k) (by have := H1.out; omega)
      have hc' := (HB.out.cell (p := ad.add k) (by rw [add_block]; exact hb)).trans hc
      generalize zs[k]'(by have := H1.out; omega) = z at hc'
      clear hc
      go_wp2_with fail
      refine (number_any z 12 _ (by omega) (by omega)).mono ?_
      rintro e w5 ⟨rfl, rfl⟩
      obtain ⟨j, hj, hj12⟩ : ∃ j : Nat, z % 12 = (j : Int) ∧ j < 12 := ⟨(z % 12).toNat, by omega, by omega⟩
      rw [hj]
      have hjI : (j : Int) < 12 := by omega
      clear hj hc' hb
      go_wp2_with fail
      have hF4 : Fr [] wr (wr.alloc (.cells #[.int .u8 ((k : Int) + 1)] 5)) := (Fr.refl [] wr).alloc _
      have hby : (((UInt8.ofNat (k + 1)).toNat : Nat) : Int) = (k : Int) + 1 := by rw [UInt8.toNat_ofNat', Nat.mod_eq_of_lt (by omega)]; omega
      have hst := str_one wr (UInt8.ofNat (k + 1))
      rw [hby] at hst
      have hgl4 := HDk.out.gl
      have hmh := own_ne_blk HDk.out.map HN.out
      have hhl := HN.out.lt
      refine (write_ok g f m4 s (j : Int) (wr.heap.size + 1) (some ⟨wr.heap.size, 0, none⟩) 1 [UInt8.ofNat (k + 1)] _ (HDk.out.fr hF4 (by simp) (by simp) (by simp)) (by rw [HS.out.2.2.1, HS.out.2.2.2.1]; rfl) (by rw [HS.out.2.2.2.2.1]; omega) (by simp) hst (by simp)
        (by intro ad e _; cases e; show wr.heap.size ≠ g; omega) (by rw [HS.out.2.2.1]; omega) (by rw [HS.out.2.1]; omega)).mono ?_
      rintro e w6 ⟨rfl, hD6, hF6⟩
      have HB6 := Lib.hid (below_fr (below_fr HB.out hF4 HB.out.size (by simp)) hF6 (by have := HB.out.size; simp; omega) (by simp; omega))
      have HN6 := Lib.hid ((HN.out.fr hF4 (by simp)).fr hF6 (by simp; omega))
      have HD6 := Lib.hid hD6
      clear hD6 hF6 hF4 hst HB HN
      go_wp2_with fail
      refine (flush_ok g f m4 _ w6 HD6.out (by show powN (powA s.armed) false = false; rw [HS.out.2.2.1]; rfl) (by show _ ≤ powA s.armed ∧ powA s.armed ≤ _; rw [HS.out.2.2.1]; simp [powA]) (by show 0 ≤ s.calls + 1 ∧ s.calls + 1 < _; rw [HS.out.2.1]; omega)).mono ?_
      rintro e w7 ⟨rfl, m7, hm7, hD7, hF7⟩
      have HB7 := Lib.hid (below_fr HB6.out hF7 HB6.out.size (by simp; omega))
      have HN7 := Lib.hid (HN6.out.fr hF7 (by simp; omega))
      have hm7' : w.heap.size ≤ m7 := by
        rcases hm7 with rfl | h
        · exact hm4
        · exact Nat.le_trans HB6.out.size h
      have HD7 := Lib.hid hD7
      obtain ⟨k7, hH7, _, _⟩ := hD7.head
      have HH7 := Lib.hid hH7
      clear hD7 hF7 HD6 HB6 HN6 hm7 hH7
      go_wp2_with fail
      refine (pending_head g f m7 _ k7 _ _ _ _ HH7.out HD7.out.map).mono ?_
      rintro e w8 ⟨rfl, rfl⟩
      rw [show ((flushD _).pend.length : Int) = 0 from rfl]
      have hz8 := HN7.out.free j
      have hc8 := HN7.out.cell j
      rw [numC_at H j (by rw [HS.out.2.2.2.2.2.1]; exact hj12)] at hc8
      have hF9 : Fr [h] w8 (w8.setCell ⟨h, j, none⟩ (.int .i64 ((k : Int) + 1))) := (Fr.refl [h] w8).set (.inl (by simp)) _
      have hmh7 := own_ne_blk HD7.out.map HN7.out
      have HD9 := Lib.hid (HD7.out.fr hF9 (by simp; omega) (by simp; omega) (by simp; omega))
      have HB9 := Lib.hid (below_fr HB7.out hF9 HB7.out.size (by simp; omega))
      have HN9 : Hid (Blk (w8.setCell ⟨h, j, none⟩ (.int .i64 ((k : Int) + 1))) h 3 (numC (H.set j (k + 1)))) := Lib.hid (by rw [← numC_set]; exact HN7.out.set j _)
      clear hF9 HD7 HB7 HN7 HH7
      go_wp2_with fail
      refine (crash_any g f m7 _ w.heap.size A2 n2 c2 ps _ HD9.out (ints_below S2.out HB9.out) H2.out HB9.out.size (fun ad _ hb => by omega)).mono ?_
      rintro e w10 ⟨rfl, m10, hm10, hD10, hF10⟩
      have HB10 := Lib.hid (below_fr HB9.out hF10 HB9.out.size (by simp; omega))
      have HN10 := Lib.hid (HN9.out.fr hF10 (by simp; omega))
      have hm10' : w.heap.size ≤ m10 := by
        rcases hm10 with rfl | h
        · exact hm7'
        · exact Nat.le_trans HB9.out.size h
      have HD10 : Hid (Dk w10 g f m10 (flN s j [UInt8.ofNat (k + 1)] ps)) := Lib.hid hD10
      clear hD10 hF10 HD9 HB9 HN9 hm10
      go_wp2
      go_roundw
      case rel => exact ⟨k + 1, m10, _, _, by omega, by go_num, hm10', HD10.out, flS_step HS.out hj12, HN10.out, HB10.out⟩
      case measure => simp [intOf]; omega
    · have hltI : ¬ (k : Int) < n1 := by omega
      clear HD3 HB3 HN3
      go_wp2_with fail
      go_loopw [11] (fun i wr => FlR2 w g f m4 h s H i wr) (fun i _ => 12 - (intOf i).toNat)
      case atStart => exact ⟨0, Nat.zero_le _, rfl, HDk.out, HN.out, HB.out⟩
      case round =>
        obtain ⟨q, hq, rfl, hDq, hNq, hBq⟩ := hrel
        clear HDk HN HB
        have HDq := Lib.hid hDq
        have HNq := Lib.hid hNq
        have HBq := Lib.hid hBq
        clear hDq hNq hBq
        by_cases hql : q < 12
        · have hqlI : (q : Int) < 12 := by omega
          obtain ⟨hle, hkp⟩ := HS.out.2.2.2.2.2.2 q hql
          have hlk : lookD s q = if H.getD q 0 = 0 then none else some [UInt8.ofNat (H.getD q 0)] := by unfold lookD; rw [HS.out.1]; exact hkp
          generalize hx : H.getD q 0 = x at *
          by_cases hx0 : x = 0
          · subst hx0
            rw [if_pos rfl] at hlk
            have HLk := Lib.hid hlk
            clear hlk hkp
            go_wp2_with fail
            refine (read_ok g f m4 s q _ HDq.out HS.out.2.2.2.1 (by rw [HS.out.2.2.2.2.1]; exact hql)).mono ?_
            rw [HLk.out]
            rintro e w7 ⟨hB7, he⟩
            obtain rfl : e = .returned (.tuple #[.slice none 0 0, .bool false, .nilIface]) := he
            have HB7 := Lib.hid (HBq.out.trans (hB7.mono HBq.out.size))
            have hF7 : Fr [] _ w7 := (Fr.refl [] _).belows hB7 (Nat.le_refl _)
            have HD7 := Lib.hid (HDq.out.fr hF7 (by simp) (by simp) (by simp))
            have hN7 := HNq.out.fr hF7 (by simp)
            have HN7 := Lib.hid hN7
            have hc7 := hN7.cell q
            rw [numC_at H q (by rw [HS.out.2.2.2.2.2.1]; exact hql), hx] at hc7
            clear hB7 hF7 hN7 HDq HNq HBq
            go_wp2_with fail
            go_quiet (fail)
            go_wp2
            go_roundw
            case rel => exact ⟨q + 1, by omega, by go_num, HD7.out.fr ((Fr.refl [] _).drew _) (by simp) (by simp) (by simp), HN7.out, HB7.out.trans ((below_drewN _ _).mono HB7.out.size)⟩
            case measure => simp [intOf]; omega
          · rw [if_neg hx0] at hlk
            have hx1 : 0 < x := by omega
            have hx30 : x ≤ 30 := by omega
            have HLk := Lib.hid hlk
            clear hlk hkp
            go_wp2_with fail
            refine (read_ok g f m4 s q _ HDq.out HS.out.2.2.2.1 (by rw [HS.out.2.2.2.2.1]; exact hql)).mono ?_
            rw [HLk.out]
            rintro e w7 ⟨hB7, hx', cx, rfl, hxl, hst7, hle7, _⟩
            have HB7 := Lib.hid (HBq.out.trans (hB7.mono HBq.out.size))
            have hF7 : Fr [] _ w7 := (Fr.refl [] _).belows hB7 (Nat.le_refl _)
            have HD7 := Lib.hid (HDq.out.fr hF7 (by simp) (by simp) (by simp))
            have hN7 := HNq.out.fr hF7 (by simp)
            have HN7 := Lib.hid hN7
            have hc7 := hN7.cell q
            rw [numC_at H q (by rw [HS.out.2.2.2.2.2.1]; exact hql), hx] at hc7
            obtain ⟨ad, e, _, hb7⟩ := hst7.pick (k := 0) (by simp)
            cases e
            rw [add_zero] at hb7
            have hby : ((([UInt8.ofNat x][0]).toNat : Nat) : Int) = (x : Int) := by
              show (((UInt8.ofNat x).toNat : Nat) : Int) = _
              rw [UInt8.toNat_ofNat', Nat.mod_eq_of_lt (by omega)]
            rw [hby] at hb7
            have hlen1 : [UInt8.ofNat x].length = 1 := rfl
            rw [hlen1]
            have hxI : (0 : Int) < x := by omega
            have hxd : decide ((0 : Int) < x) = true := decide_eq_true hxI
            clear hB7 hF7 hN7 HDq HNq HBq hst7 hby
            go_wp2_with fail
            go_quiet (fail)
            go_wp2
            go_roundw
            case rel => exact ⟨q + 1, by omega, by go_num, HD7.out.fr ((Fr.refl [] _).drew _) (by simp) (by simp) (by simp), HN7.out, HB7.out.trans ((below_drewN _ _).mono HB7.out.size)⟩
            case measure => simp [intOf]; omega
        · have hqlI : ¬ (q : Int) < 12 := by omega
          go_wp2_with fail
          refine (is_nil _).mono ?_
          rintro e w9 ⟨rfl, hB9⟩
          have HB9 := Lib.hid (HBq.out.trans (hB9.mono HBq.out.size))
          clear hB9
          go_wp2
          go_ret
          exact ⟨rfl, HB9.out⟩

theorem diskFlushes_walk (A1 : Option Addr) (n1 c1 : Nat) (zs : List Int) (A2 : Option Addr) (n2 c2 : Nat) (ps : List Int) (w : World) (h1 : n1 = zs.length) (hs1 : Ints w w.heap.size A1 zs) (_ : ∀ z ∈ zs, -9223372036854775808 ≤ z ∧ z ≤ 9223372036854775807)
    (h2 : n2 = ps.length) (hs2 : Ints w w.heap.size A2 ps) (_ : ∀ z ∈ ps, -9223372036854775808 ≤ z ∧ z ≤ 9223372036854775807) :
    Calls Tryd.prog 8 #[.slice A1 n1 c1, .slice A2 n2 c2] w (RetYes w) := by
  by_cases h : 30 < n1 ∨ 12 < n2
  · exact diskFlushes_big A1 A2 n1 c1 n2 c2 w h
  · exact diskFlushes_small A1 A2 n1 c1 n2 c2 zs ps w h1 h2 hs1 hs2 (by omega) (by omega)
end Go.Proofs.YtgombgkfocpacaaDoor
