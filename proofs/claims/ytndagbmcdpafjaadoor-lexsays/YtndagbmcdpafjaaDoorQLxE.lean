/-
  The walks of the lexer's name, number, sign, read. Conditions: each theorem's own premises.
-/
import Derived.Test.YtndagbmcdpafjaaDoorQLxD
import Derived.Test.YtndagbmcdpafjaaDoorQShp
namespace Go.Proofs.YtndagbmcdpafjaaDoor
open Go.Shelf Go.RowKit Go.Lib

theorem conv_cut (g c : Nat) (R : List Nat) (p e : Nat) (W : World) (h : Rns W g R) (he : e ≤ R.length) (hok : okRs R) :
    (convert 101 9 (.slice (some ⟨g, p, none⟩) (e - p) c)).run Tryd.prog W = .ok (.string ⟨(cutE R p e).toArray⟩) W := by
  have hc : ∀ j, j < ((R.drop p).map Int.ofNat).length → W.cell? ((⟨g, p, none⟩ : Addr).add j) = some (.int .i32 (((R.drop p).map Int.ofNat).getD j 0)) := fun j hj => by
    rw [List.length_map, List.length_drop] at hj
    have ha : (⟨g, p, none⟩ : Addr).add j = ⟨g, p + j, none⟩ := by unfold Addr.add; split <;> simp_all
    rw [ha, h.cell (by omega), at0_lt (by omega)]
    simp [List.getD, List.getElem?_drop, List.getElem?_eq_getElem (show p + j < R.length by omega)]
  rw [run_convert_runes W _ _ 21 ⟨g, p, none⟩ (e - p) c ((R.drop p).map Int.ofNat) (by simp; omega) Tryd.underlying101 Tryd.underlying21 Tryd.underlying9 hc]
  rw [← List.map_take, runesBytes_eq _ (hok.sub p (e - p))]
  rfl

theorem blk4 {w : World} {g : Nat} {t : TypeId} {v0 v1 v2 v3 : Value} (h : Blk w g t #[v0, v1, v2, v3]) :
    (w.cell? ⟨g, 0, none⟩ = some v0 ∧ w.cell? ⟨g, 1, none⟩ = some v1 ∧ w.cell? ⟨g, 2, none⟩ = some v2 ∧ w.cell? ⟨g, 3, none⟩ = some v3) ∧
    (w.frozen? ⟨g, 0, none⟩ = false ∧ w.frozen? ⟨g, 1, none⟩ = false ∧ w.frozen? ⟨g, 2, none⟩ = false ∧ w.frozen? ⟨g, 3, none⟩ = false) :=
  ⟨⟨h.cell 0, h.cell 1, h.cell 2, h.cell 3⟩, h.free 0, h.free 1, h.free 2, h.free 3⟩
/-- Four cells are written. -/
def set4 (W : World) (g : Nat) (v0 v1 v2 v3 : Value) : World := (((W.setCell ⟨g, 0, none⟩ v0).setCell ⟨g, 1, none⟩ v1).setCell ⟨g, 2, none⟩ v2).setCell ⟨g, 3, none⟩ v3
theorem set4_blk {W : World} {g : Nat} {t : TypeId} {u0 u1 u2 u3 : Value} (h : Blk W g t #[u0, u1, u2, u3]) (v0 v1 v2 v3 : Value) : Blk (set4 W g v0 v1 v2 v3) g t #[v0, v1, v2, v3] := (((h.set 0 v0).set 1 v1).set 2 v2).set 3 v3
theorem set4_below {w W : World} {B g : Nat} (h : Below B w W) (hg : B ≤ g) (v0 v1 v2 v3 : Value) : Below B w (set4 W g v0 v1 v2 v3) := (((h.setCell hg _).setCell hg _).setCell hg _).setCell hg _
theorem set4_far {W : World} {g b : Nat} {t : TypeId} {cs : Array Value} (h : Blk W b t cs) (hb : b ≠ g) (v0 v1 v2 v3 : Value) : Blk (set4 W g v0 v1 v2 v3) b t cs := (((h.far hb _).far hb _).far hb _).far hb _
theorem kwB_of (x : List UInt8) : kwB ⟨x.toArray⟩ = decide (x ∈ kws) := by unfold kwB; simp

set_option maxRecDepth 100000 in
set_option maxHeartbeats 2000000 in
theorem lname_any (g c : Nat) (R : List Nat) (len p : Nat) (er : Nat → Addr) (w : World) (hl : len = R.length) (hp : p < len) (hz : len ≤ 1099511627776) (hlc : len ≤ c) (h : Rns w g R) (hok : okRs R) (hS : Lerr w er) (ht : letB (at0 R p : Int) = true) :
    Calls Tryd.prog 85 #[.slice (some ⟨g, 0, none⟩) len c, .int .i64 (p : Int)] w (RetRd w er (nameAt R p)) := by
  obtain ⟨W0, hW0⟩ : ∃ W0, W0 = w.alloc (.cells #[.int .i64 0, .int .i64 0, .string { data := #[] }, .int .i64 0] 37) := ⟨_, rfl⟩
  have hB0 : Below w.heap.size w W0 := by rw [hW0]; exact (Below.refl _ _).alloc (Nat.le_refl _) _
  have hr0 : Blk W0 w.heap.size 37 #[.int .i64 0, .int .i64 0, .string { data := #[] }, .int .i64 0] := by rw [hW0]; exact heap_alloc_new w _
  have h0 : Rns W0 g R := h.below hB0 h.lt
  have HB0 := Lib.hid hB0
  have HR0 := Lib.hid hr0
  have HE0 := Lib.hid (hS.below hB0)
  have hgp : (⟨g, 0, none⟩ : Addr).add p = ⟨g, p, none⟩ := lit_add g p
  have HBh := Lib.hid (behind_name g c R len p W0 hl (by omega) hz h0)
  have hge := bh_gt (p := inNm) (R := R) (i := p) (by omega) (by simp [inNm, ht])
  have hle := bh_le inNm R p (by omega)
  have HCv := Lib.hid (fun C => conv_cut g C R p (bh inNm R p) W0 h0 hle hok)
  have HIs := Lib.hid (fun x W => lis_any x W)
  have hx1 : 24 < (cutE R p (bh inNm R p)).length → nameAt R p = .bad 2 p := fun h => by unfold nameAt; rw [if_pos h]
  have hx2 : ¬ 24 < (cutE R p (bh inNm R p)).length → nameAt R p = .tok ⟨if cutE R p (bh inNm R p) ∈ kws then 2 else 1, p, cutE R p (bh inNm R p), 0⟩ (bh inNm R p) := fun h => by unfold nameAt; rw [if_neg h]
  obtain ⟨X, hX⟩ : ∃ X, X = nameAt R p := ⟨_, rfl⟩
  rw [← hX] at hx1 hx2 ⊢
  obtain ⟨e, he⟩ : ∃ e, e = bh inNm R p := ⟨_, rfl⟩
  rw [← he] at HBh hge hle HCv hx1 hx2
  have hle' : e ≤ len := by omega
  have hec : e ≤ c := by omega
  obtain ⟨x, hx⟩ : ∃ x, x = cutE R p e := ⟨_, rfl⟩
  rw [← hx] at HCv hx1 hx2
  have hcv := HCv.out
  have hg := HE0.out.many
  have HFl := Lib.hid (fun W => fail_any p (er 2) W)
  clear he hx hl h h0 hok ht hle hX HCv hS hB0 hr0
  by_cases h24 : 24 < x.length
  · have HX := Lib.hid (hx1 h24)
    have h24i : decide ((24 : Int) < (x.length : Int)) = true := by simp; omega
    clear hx1 hx2 HIs
    go_enter Tryd.func85, Tryd.ntmps85
    go_wp2_with fail
    rw [← hW0]
    clear hW0
    refine HBh.out.mono ?_
    rintro e w' ⟨rfl, rfl⟩
    have HBW := Lib.hid (Below.refl W0.heap.size W0)
    go_wp2_with fail
    refine (HFl.out _).mono ?_
    rintro e w' ⟨hB1, b, hb, rfl, hbk⟩
    dsimp only [tkV]
    have HB1 := Lib.hid (HBW.out.trans (hB1.mono HBW.out.size))
    have HR1 := Lib.hid (HR0.out.below HB1.out HR0.out.lt)
    obtain ⟨⟨c0, c1, c2, c3⟩, f0, f1, f2, f3⟩ := blk4 HR1.out
    have HBk := Lib.hid hbk
    clear hbk hB1
    go_wp2
    obtain ⟨⟨d0, d1, d2, d3⟩, _⟩ := blk4 (set4_blk HR1.out (.int .i64 0) (.int .i64 0) (.string { data := #[] }) (.int .i64 0))
    unfold set4 at d0 d1 d2 d3
    refine bodyPost_ret (v := .tuple #[tkV ⟨0, 0, [], 0⟩, .int .i64 0, .iface 85 (.pointer (some ⟨b, 0, none⟩))]) (by simp [results, Tryd.results85, go_sem, tkV, d0, d1, d2, d3]) rfl ?_
    rw [HX.out]
    exact ⟨set4_below (HB0.out.trans (HB1.out.mono HB0.out.size)) (Nat.le_refl _) _ _ _ _, b, by have := HB0.out.size; have := HBW.out.size; omega, rfl, set4_far HBk.out (by have := HR0.out.lt; have := HBW.out.size; omega) _ _ _ _⟩
  · have HX1 := Lib.hid (hx2 h24)
    have h24d : (decide (24 < (x.length : Int))) = false := by simp; omega
    have HI2 := Lib.hid (HIs.out ⟨x.toArray⟩ W0)
    rw [kwB_of] at HI2
    clear hx1 hx2 h24 HIs
    by_cases hk : x ∈ kws
    · have HX : Hid (X = .tok ⟨2, p, x, 0⟩ e) := Lib.hid (by rw [HX1.out, if_pos hk])
      rw [decide_eq_true hk] at HI2
      clear hk HX1
      go_enter Tryd.func85, Tryd.ntmps85
      go_wp2_with fail
      rw [← hW0]
      clear hW0
      refine HBh.out.mono ?_
      rintro e w' ⟨rfl, rfl⟩
      go_wp2_with fail
      refine HI2.out.mono ?_
      rintro e w' ⟨rfl, hB1⟩
      have HBW := Lib.hid hB1
      clear hB1
      have HR1 := Lib.hid (HR0.out.below HBW.out HR0.out.lt)
      obtain ⟨⟨c0, c1, c2, c3⟩, f0, f1, f2, f3⟩ := blk4 HR1.out
      go_wp2
      obtain ⟨⟨d0, d1, d2, d3⟩, _⟩ := blk4 (set4_blk HR1.out (.int .i64 2) (.int .i64 (p : Int)) (.string ⟨x.toArray⟩) (.int .i64 0))
      unfold set4 at d0 d1 d2 d3
      refine bodyPost_ret (v := .tuple #[.agg #[.int .i64 2, .int .i64 (p : Int), .string ⟨x.toArray⟩, .int .i64 0], .int .i64 (e : Int), .nilIface]) (by simp [results, Tryd.results85, go_sem, d0, d1, d2, d3]) rfl ?_
      rw [HX.out]
      refine ⟨set4_below (HB0.out.trans (HBW.out.mono HB0.out.size)) (Nat.le_refl _) _ _ _ _, ?_⟩
      rfl
    · have HX : Hid (X = .tok ⟨1, p, x, 0⟩ e) := Lib.hid (by rw [HX1.out, if_neg hk])
      rw [decide_eq_false hk] at HI2
      clear hk HX1
      go_enter Tryd.func85, Tryd.ntmps85
      go_wp2_with fail
      rw [← hW0]
      clear hW0
      refine HBh.out.mono ?_
      rintro e w' ⟨rfl, rfl⟩
      go_wp2_with fail
      refine HI2.out.mono ?_
      rintro e w' ⟨rfl, hB1⟩
      have HBW := Lib.hid hB1
      clear hB1
      have HR1 := Lib.hid (HR0.out.below HBW.out HR0.out.lt)
      obtain ⟨⟨c0, c1, c2, c3⟩, f0, f1, f2, f3⟩ := blk4 HR1.out
      go_wp2
      obtain ⟨⟨d0, d1, d2, d3⟩, _⟩ := blk4 (set4_blk HR1.out (.int .i64 1) (.int .i64 (p : Int)) (.string ⟨x.toArray⟩) (.int .i64 0))
      unfold set4 at d0 d1 d2 d3
      refine bodyPost_ret (v := .tuple #[.agg #[.int .i64 1, .int .i64 (p : Int), .string ⟨x.toArray⟩, .int .i64 0], .int .i64 (e : Int), .nilIface]) (by simp [results, Tryd.results85, go_sem, d0, d1, d2, d3]) rfl ?_
      rw [HX.out]
      refine ⟨set4_below (HB0.out.trans (HBW.out.mono HB0.out.size)) (Nat.le_refl _) _ _ _ _, ?_⟩
      rfl

/-- Digits alone. -/
def allDig (l : List UInt8) : Prop := ∀ c ∈ l, 48 ≤ c.toNat ∧ c.toNat ≤ 57
theorem dval_ge : ∀ (l : List UInt8) (a : Nat), a ≤ l.foldl (fun a c => a * 10 + (c.toNat - 48)) a
  | [], a => Nat.le_refl _
  | c :: r, a => Nat.le_trans (by omega) (dval_ge r (a * 10 + (c.toNat - 48)))
theorem parseM_dig (M : Nat) (hM : M = 18446744073709551615) : ∀ (l : List UInt8) (a : Nat), allDig l → a ≤ M →
    Lib.parseUintM M a l = if M < l.foldl (fun a c => a * 10 + (c.toNat - 48)) a then .range else .ok (l.foldl (fun a c => a * 10 + (c.toNat - 48)) a)
  | [], a, _, ha => by rw [if_neg (by simpa using ha)]; rfl
  | c :: r, a, hd, ha => by
    have hc := hd c (by simp)
    have hg := dval_ge r (a * 10 + (c.toNat - 48))
    show (if 48 ≤ c.toNat ∧ c.toNat ≤ 57 then _ else _) = _
    rw [if_pos hc]
    rw [List.foldl_cons]
    by_cases h1 : 1844674407370955162 ≤ a
    · rw [if_pos h1, if_pos (by omega)]
    · rw [if_neg h1]
      by_cases h2 : M < a * 10 + (c.toNat - 48)
      · rw [if_pos h2, if_pos (by omega)]
      · rw [if_neg h2]
        exact parseM_dig M hM r _ (fun x hx => hd x (List.mem_cons_of_mem _ hx)) (by omega)
theorem parse_dig (l : List UInt8) (hd : allDig l) (hn : l ≠ []) : Lib.parseIntB 64 l = if 9223372036854775807 < dval l then .range else .ok (dval l : Int) := by
  cases l with
  | nil => exact absurd rfl hn
  | cons c r =>
    have hc := hd c (by simp)
    unfold Lib.parseIntB
    simp only [show ¬ c.toNat = 43 by omega, show ¬ c.toNat = 45 by omega, or_self, if_false]
    rw [Lib.parseUintB, if_neg (by simp), parseM_dig (2 ^ 64 - 1) (by decide) _ 0 hd (by omega)]
    unfold dval
    generalize (c :: r).foldl (fun a c => a * 10 + (c.toNat - 48)) 0 = v
    by_cases h1 : 2 ^ 64 - 1 < v
    · rw [if_pos h1, if_pos (by omega)]
    · rw [if_neg h1]
      by_cases h2 : 9223372036854775807 < v
      · rw [if_pos h2]
        simp only [not_false_eq_true, true_and]
        rw [if_pos (by omega)]
      · rw [if_neg h2]
        simp only [not_false_eq_true, true_and, false_and, if_false]
        rw [if_neg (by omega)]
theorem encB_dig {r : Nat} (h : isDig r = true) : encB r = [UInt8.ofNat r] ∧ 48 ≤ r ∧ r ≤ 57 := by
  unfold isDig digB at h
  have := of_decide_eq_true h
  refine ⟨?_, by omega, by omega⟩
  unfold encB
  rw [if_pos (by omega)]
theorem encs_dig : ∀ (l : List Nat), (∀ r ∈ l, isDig r = true) → allDig (encs l) ∧ (encs l).length = l.length
  | [], _ => ⟨(fun c hc => by cases hc), rfl⟩
  | r :: t, h => by
    obtain ⟨h1, h2, h3⟩ := encB_dig (h r (by simp))
    obtain ⟨h4, h5⟩ := encs_dig t (fun x hx => h x (List.mem_cons_of_mem _ hx))
    rw [encs_cons, h1]
    refine ⟨fun c hc => ?_, by simp [h5]⟩
    rcases List.mem_append.1 hc with hc | hc
    · simp at hc
      subst hc
      rw [ofNat_toNat (by omega)]
      exact ⟨h2, h3⟩
    · exact h4 c hc
theorem mem_takeWhile {α : Type} (p : α → Bool) : ∀ (l : List α), ∀ x ∈ l.takeWhile p, p x = true
  | [], x, hx => by cases hx
  | a :: t, x, hx => by
    by_cases ha : p a = true
    · rw [List.takeWhile_cons_of_pos ha] at hx
      rcases List.mem_cons.1 hx with rfl | hx
      · exact ha
      · exact mem_takeWhile p t x hx
    · rw [List.takeWhile_cons_of_neg ha] at hx
      cases hx
theorem cut_dig (R : List Nat) (p : Nat) : allDig (cutE R p (bh isDig R p)) ∧ (cutE R p (bh isDig R p)).length = bh isDig R p - p := by
  have e : cutE R p (bh isDig R p) = encs ((R.drop p).takeWhile isDig) := by unfold cutE; rw [bh_take]
  obtain ⟨h1, h2⟩ := encs_dig _ (mem_takeWhile isDig (R.drop p))
  rw [e]
  exact ⟨h1, by rw [h2]; unfold bh; omega⟩

/-- What ParseInt leaves at digits. -/
def RetPi (w : World) (v : Nat) (e : Ending) (w' : World) : Prop :=
  Below w.heap.size w w' ∧ ((v ≤ 9223372036854775807 ∧ e = .returned (.tuple #[.int .i64 (v : Int), .nilIface])) ∨ (9223372036854775807 < v ∧ ∃ z te pe, e = .returned (.tuple #[.int .i64 z, .iface te pe])))
theorem parseInt_dig (l : List UInt8) (hd : allDig l) (hn : l ≠ []) (hz : l.length ≤ 281474976710656) (er : Nat → Addr) (w : World) (hS : Lerr w er) :
    Calls Tryd.prog 119 #[.string ⟨l.toArray⟩, .int .i64 10, .int .i64 64] w (RetPi w (dval l)) := by
  have hp := parse_dig l hd hn
  by_cases hv : 9223372036854775807 < dval l
  · rw [if_pos hv] at hp
    obtain ⟨te, pe, hr⟩ := hS.rng
    refine (Any.strconv_ParseInt_10_at64_range Tryd.laysPI ⟨l.toArray⟩ hz (by simpa using hp) _ w hr (.inr ⟨te, pe, rfl⟩)).mono ?_
    rintro e w' ⟨N, rfl, _, _, hb⟩
    exact ⟨hb, .inr ⟨hv, _, _, _, rfl⟩⟩
  · rw [if_neg hv] at hp
    refine (Any.strconv_ParseInt_10_at64_ok Tryd.laysPI ⟨l.toArray⟩ (by have : (⟨l.toArray⟩ : ByteArray).size = l.length := rfl; omega) _ (by simpa using hp) w).mono ?_
    rintro e w' ⟨rfl, hw⟩
    refine ⟨?_, .inl ⟨by omega, rfl⟩⟩
    rcases hw with rfl | ⟨t, rfl⟩
    · exact Below.refl _ _
    · exact Lib.bytesWorld_below _ _ _

set_option maxRecDepth 100000 in
set_option maxHeartbeats 4000000 in
theorem lnumber_any (g c : Nat) (R : List Nat) (len p : Nat) (er : Nat → Addr) (w : World) (hl : len = R.length) (hp : p < len) (hz : len ≤ 1099511627776) (hlc : len ≤ c) (h : Rns w g R) (hok : okRs R) (hS : Lerr w er) (ht : isDig (at0 R p) = true) :
    Calls Tryd.prog 87 #[.slice (some ⟨g, 0, none⟩) len c, .int .i64 (p : Int)] w (RetRd w er (numAt R p)) := by
  obtain ⟨W0, hW0⟩ : ∃ W0, W0 = w.alloc (.cells #[.int .i64 0, .int .i64 0, .string { data := #[] }, .int .i64 0] 37) := ⟨_, rfl⟩
  have hB0 : Below w.heap.size w W0 := by rw [hW0]; exact (Below.refl _ _).alloc (Nat.le_refl _) _
  have hr0 : Blk W0 w.heap.size 37 #[.int .i64 0, .int .i64 0, .string { data := #[] }, .int .i64 0] := by rw [hW0]; exact heap_alloc_new w _
  have h0 : Rns W0 g R := h.below hB0 h.lt
  have HB0 := Lib.hid hB0
  have HR0 := Lib.hid hr0
  have HE0 := Lib.hid (hS.below hB0)
  have hgp : (⟨g, 0, none⟩ : Addr).add p = ⟨g, p, none⟩ := lit_add g p
  have HBh := Lib.hid (behind_dig g c R len p W0 hl (by omega) hz h0)
  have hge := bh_gt (p := isDig) (R := R) (i := p) (by omega) ht
  have hle := bh_le isDig R p (by omega)
  have HCv := Lib.hid (fun C => conv_cut g C R p (bh isDig R p) W0 h0 hle hok)
  obtain ⟨hdg, hdl⟩ := cut_dig R p
  have hx1 : numB (cutE R p (bh isDig R p)) = none → numAt R p = .bad 6 p := fun h => by unfold numAt; rw [h]
  have hx2 : ∀ v, numB (cutE R p (bh isDig R p)) = some v → inNm (at0 R (bh isDig R p)) = true → numAt R p = .bad 6 p := fun v h h2 => by unfold numAt; rw [h]; simp [h2]
  have hx3 : ∀ v, numB (cutE R p (bh isDig R p)) = some v → inNm (at0 R (bh isDig R p)) = false → numAt R p = .tok ⟨3, p, cutE R p (bh isDig R p), v⟩ (bh isDig R p) := fun v h h2 => by unfold numAt; rw [h]; simp [h2]
  obtain ⟨X, hX⟩ : ∃ X, X = numAt R p := ⟨_, rfl⟩
  rw [← hX] at hx1 hx2 hx3 ⊢
  obtain ⟨e, he⟩ : ∃ e, e = bh isDig R p := ⟨_, rfl⟩
  rw [← he] at HBh hge hle HCv hx1 hx2 hx3 hdg hdl
  have hle' : e ≤ len := by omega
  have hec : e ≤ c := by omega
  obtain ⟨x, hx⟩ : ∃ x, x = cutE R p e := ⟨_, rfl⟩
  rw [← hx] at HCv hx1 hx2 hx3 hdg hdl
  have HPi := Lib.hid (parseInt_dig x hdg (by rintro rfl; simp at hdl; omega) (by omega) er W0 HE0.out)
  have HRn := Lib.hid h0
  have HAt := Lib.hid (fun W (hW : Rns W g R) => at_any g c R len e W hl hW)
  have HIn := Lib.hid (fun r W => inName_any r W)
  obtain ⟨r1, hr1⟩ : ∃ r, r = at0 R e := ⟨_, rfl⟩
  rw [← hr1] at HAt hx2 hx3
  obtain ⟨S, hS1⟩ : ∃ S : ByteArray, S = ⟨x.toArray⟩ := ⟨_, rfl⟩
  rw [← hS1] at HCv HPi
  have hsz : S.size = e - p := by rw [hS1]; exact hdl
  have hsz1 : 0 < S.size := by omega
  have hszi : (S.size : Int) = ((e - p : Nat) : Int) := by rw [hsz]
  have hS0 : S[0] = x[0]'(by omega) := by subst hS1; rfl
  obtain ⟨c0, hc0⟩ : ∃ c0, c0 = x[0]'(by omega) := ⟨_, rfl⟩
  rw [← hc0] at hS0
  have hhd : x.head? = some c0 := by rw [hc0, List.head?_eq_getElem?, List.getElem?_eq_getElem]
  have hcv := HCv.out
  have hg := HE0.out.numb
  have HFl := Lib.hid (fun W => fail_any p (er 6) W)
  have HXS := Lib.hid hS1
  clear he hx hl h h0 hok ht hle hX HCv hS hB0 hr0 hr1 hc0 hS1 hsz
  by_cases hbig : 9223372036854775807 < dval x
  · have HX := Lib.hid (hx1 (by unfold numB; rw [if_pos (.inr hbig)]))
    have HP2 : Hid (Calls Tryd.prog 119 #[.string S, .int .i64 10, .int .i64 64] W0 fun e w' => Below W0.heap.size W0 w' ∧ ∃ z te pe, e = .returned (.tuple #[.int .i64 z, .iface te pe])) := Lib.hid (HPi.out.mono fun e w' h => ⟨h.1, by
      rcases h.2 with ⟨h2, _⟩ | ⟨_, h2⟩
      · omega
      · exact h2⟩)
    clear hx1 hx2 hx3 HPi hbig hhd hS0
    go_enter Tryd.func87, Tryd.ntmps87
    go_wp2_with fail
    rw [← hW0]
    clear hW0
    refine HBh.out.mono ?_
    rintro e w' ⟨rfl, rfl⟩
    go_wp2_with fail
    refine HP2.out.mono ?_
    rintro e w1 ⟨hBw, z, te, pe, rfl⟩
    have HBW := Lib.hid hBw
    have hg1 := (HE0.out.below hBw).numb
    clear hBw
    go_wp2_with fail
    refine (HFl.out _).mono ?_
    rintro e w' ⟨hB1, b, hb, rfl, hbk⟩
    dsimp only [tkV]
    have HB1 := Lib.hid (HBW.out.trans (hB1.mono HBW.out.size))
    have HR1 := Lib.hid (HR0.out.below HB1.out HR0.out.lt)
    obtain ⟨⟨c0, c1, c2, c3⟩, f0, f1, f2, f3⟩ := blk4 HR1.out
    have HBk := Lib.hid hbk
    clear hbk hB1
    go_wp2
    obtain ⟨⟨d0, d1, d2, d3⟩, _⟩ := blk4 (set4_blk HR1.out (.int .i64 0) (.int .i64 0) (.string { data := #[] }) (.int .i64 0))
    unfold set4 at d0 d1 d2 d3
    refine bodyPost_ret (v := .tuple #[tkV ⟨0, 0, [], 0⟩, .int .i64 0, .iface 85 (.pointer (some ⟨b, 0, none⟩))]) (by simp [results, Tryd.results87, go_sem, tkV, d0, d1, d2, d3]) rfl ?_
    rw [HX.out]
    exact ⟨set4_below (HB0.out.trans (HB1.out.mono HB0.out.size)) (Nat.le_refl _) _ _ _ _, b, by have := HB0.out.size; have := HBW.out.size; omega, rfl, set4_far HBk.out (by have := HR0.out.lt; have := HBW.out.size; omega) _ _ _ _⟩
  have HP2 : Hid (Calls Tryd.prog 119 #[.string S, .int .i64 10, .int .i64 64] W0 fun e w' => Below W0.heap.size W0 w' ∧ e = .returned (.tuple #[.int .i64 (dval x : Int), .nilIface])) := Lib.hid (HPi.out.mono fun e w' h => ⟨h.1, by
    rcases h.2 with ⟨_, h2⟩ | ⟨h2, _⟩
    · exact h2
    · omega⟩)
  obtain ⟨v, hv⟩ : ∃ v, v = dval x := ⟨_, rfl⟩
  rw [← hv] at HP2
  by_cases h0 : 1 < e - p ∧ c0 = 48
  · have HX := Lib.hid (hx1 (by unfold numB; rw [if_pos (.inl ⟨by omega, by rw [hhd, h0.2]⟩)]))
    obtain ⟨h01, h02⟩ := h0
    have h1i : (1 : Int) < (S.size : Int) := by omega
    have h02i : ((c0.toNat : Int) == 48) = true := by subst h02; rfl
    clear hx1 hx2 hx3 HPi hbig hhd hv h01 h02 hszi hdl
    go_enter Tryd.func87, Tryd.ntmps87
    go_wp2_with fail
    rw [← hW0]
    clear hW0
    refine HBh.out.mono ?_
    rintro e w' ⟨rfl, rfl⟩
    go_wp2_with fail
    refine HP2.out.mono ?_
    rintro e w1 ⟨hBw, rfl⟩
    have HBW := Lib.hid hBw
    have hg1 := (HE0.out.below hBw).numb
    clear hBw
    go_wp2_with fail
    refine (HFl.out _).mono ?_
    rintro e w' ⟨hB1, b, hb, rfl, hbk⟩
    dsimp only [tkV]
    have HB1 := Lib.hid (HBW.out.trans (hB1.mono HBW.out.size))
    have HR1 := Lib.hid (HR0.out.below HB1.out HR0.out.lt)
    obtain ⟨⟨c0, c1, c2, c3⟩, f0, f1, f2, f3⟩ := blk4 HR1.out
    have HBk := Lib.hid hbk
    clear hbk hB1
    go_wp2
    obtain ⟨⟨d0, d1, d2, d3⟩, _⟩ := blk4 (set4_blk HR1.out (.int .i64 0) (.int .i64 0) (.string { data := #[] }) (.int .i64 0))
    unfold set4 at d0 d1 d2 d3
    refine bodyPost_ret (v := .tuple #[tkV ⟨0, 0, [], 0⟩, .int .i64 0, .iface 85 (.pointer (some ⟨b, 0, none⟩))]) (by simp [results, Tryd.results87, go_sem, tkV, d0, d1, d2, d3]) rfl ?_
    rw [HX.out]
    exact ⟨set4_below (HB0.out.trans (HB1.out.mono HB0.out.size)) (Nat.le_refl _) _ _ _ _, b, by have := HB0.out.size; have := HBW.out.size; omega, rfl, set4_far HBk.out (by have := HR0.out.lt; have := HBW.out.size; omega) _ _ _ _⟩
  have hnb : numB x = some v := by
    unfold numB
    rw [if_neg, hv]
    rintro (⟨h1, h2⟩ | h1)
    · rw [hhd] at h2
      exact h0 ⟨by omega, by simpa using h2⟩
    · exact hbig h1
  have hx2 := hx2 v hnb
  have hx3 := hx3 v hnb
  have HI2 := Lib.hid (fun W => HIn.out r1 W)
  have HVX := Lib.hid hv
  clear hnb HIn HPi hhd hv hbig hx1 hdl
  have hway : (1 < e - p ∧ ((c0.toNat : Int) == 48) = false) ∨ ¬ (1 < e - p) := by
    by_cases h1 : 1 < e - p
    · exact .inl ⟨h1, beq_eq_false_iff_ne.2 fun h => h0 ⟨h1, UInt8.toNat_inj.1 (by show c0.toNat = 48; omega)⟩⟩
    · exact .inr h1
  clear h0
  cases hb : inNm r1
  · have HX := Lib.hid (hx3 hb)
    rw [hb] at HI2
    clear hx2 hx3 hb
    rcases hway with ⟨h1, h48⟩ | h1
    · have h1i : (1 : Int) < (S.size : Int) := by omega
      clear h1 hszi
      go_enter Tryd.func87, Tryd.ntmps87
      go_wp2_with fail
      rw [← hW0]
      clear hW0
      refine HBh.out.mono ?_
      rintro e w' ⟨rfl, rfl⟩
      go_wp2_with fail
      refine HP2.out.mono ?_
      rintro e w1 ⟨hBw, rfl⟩
      have HBW := Lib.hid hBw
      have hg1 := (HE0.out.below hBw).numb
      have HA2 := Lib.hid (HAt.out w1 (HRn.out.below hBw HRn.out.lt))
      clear hBw
      go_wp2_with fail
      refine HA2.out.mono ?_
      rintro e w' ⟨rfl, rfl⟩
      go_wp2_with fail
      refine (HI2.out _).mono ?_
      rintro e w' ⟨rfl, rfl⟩
      have HR1 := Lib.hid (HR0.out.below HBW.out HR0.out.lt)
      obtain ⟨⟨c0, c1, c2, c3⟩, f0, f1, f2, f3⟩ := blk4 HR1.out
      go_wp2
      obtain ⟨⟨d0, d1, d2, d3⟩, _⟩ := blk4 (set4_blk HR1.out (.int .i64 3) (.int .i64 (p : Int)) (.string S) (.int .i64 (v : Int)))
      unfold set4 at d0 d1 d2 d3
      refine bodyPost_ret (v := .tuple #[.agg #[.int .i64 3, .int .i64 (p : Int), .string S, .int .i64 (v : Int)], .int .i64 (e : Int), .nilIface]) (by simp [results, Tryd.results87, go_sem, d0, d1, d2, d3]) rfl ?_
      rw [HX.out]
      refine ⟨set4_below (HB0.out.trans (HBW.out.mono HB0.out.size)) (Nat.le_refl _) _ _ _ _, ?_⟩
      rw [HXS.out]
      rfl
    · have h1i : decide ((1 : Int) < (S.size : Int)) = false := by simp; omega
      clear h1 hszi hS0
      go_enter Tryd.func87, Tryd.ntmps87
      go_wp2_with fail
      rw [← hW0]
      clear hW0
      refine HBh.out.mono ?_
      rintro e w' ⟨rfl, rfl⟩
      go_wp2_with fail
      refine HP2.out.mono ?_
      rintro e w1 ⟨hBw, rfl⟩
      have HBW := Lib.hid hBw
      have hg1 := (HE0.out.below hBw).numb
      have HA2 := Lib.hid (HAt.out w1 (HRn.out.below hBw HRn.out.lt))
      clear hBw
      go_wp2_with fail
      refine HA2.out.mono ?_
      rintro e w' ⟨rfl, rfl⟩
      go_wp2_with fail
      refine (HI2.out _).mono ?_
      rintro e w' ⟨rfl, rfl⟩
      have HR1 := Lib.hid (HR0.out.below HBW.out HR0.out.lt)
      obtain ⟨⟨c0, c1, c2, c3⟩, f0, f1, f2, f3⟩ := blk4 HR1.out
      go_wp2
      obtain ⟨⟨d0, d1, d2, d3⟩, _⟩ := blk4 (set4_blk HR1.out (.int .i64 3) (.int .i64 (p : Int)) (.string S) (.int .i64 (v : Int)))
      unfold set4 at d0 d1 d2 d3
      refine bodyPost_ret (v := .tuple #[.agg #[.int .i64 3, .int .i64 (p : Int), .string S, .int .i64 (v : Int)], .int .i64 (e : Int), .nilIface]) (by simp [results, Tryd.results87, go_sem, d0, d1, d2, d3]) rfl ?_
      rw [HX.out]
      refine ⟨set4_below (HB0.out.trans (HBW.out.mono HB0.out.size)) (Nat.le_refl _) _ _ _ _, ?_⟩
      rw [HXS.out]
      rfl
  · have HX := Lib.hid (hx2 hb)
    rw [hb] at HI2
    clear hx2 hx3 hb
    rcases hway with ⟨h1, h48⟩ | h1
    · have h1i : (1 : Int) < (S.size : Int) := by omega
      clear h1 hszi
      go_enter Tryd.func87, Tryd.ntmps87
      go_wp2_with fail
      rw [← hW0]
      clear hW0
      refine HBh.out.mono ?_
      rintro e w' ⟨rfl, rfl⟩
      go_wp2_with fail
      refine HP2.out.mono ?_
      rintro e w1 ⟨hBw, rfl⟩
      have HBW := Lib.hid hBw
      have hg1 := (HE0.out.below hBw).numb
      have HA2 := Lib.hid (HAt.out w1 (HRn.out.below hBw HRn.out.lt))
      clear hBw
      go_wp2_with fail
      refine HA2.out.mono ?_
      rintro e w' ⟨rfl, rfl⟩
      go_wp2_with fail
      refine (HI2.out _).mono ?_
      rintro e w' ⟨rfl, rfl⟩
      go_wp2_with fail
      refine (HFl.out _).mono ?_
      rintro e w' ⟨hB1, b, hb, rfl, hbk⟩
      dsimp only [tkV]
      have HB1 := Lib.hid (HBW.out.trans (hB1.mono HBW.out.size))
      have HR1 := Lib.hid (HR0.out.below HB1.out HR0.out.lt)
      obtain ⟨⟨c0, c1, c2, c3⟩, f0, f1, f2, f3⟩ := blk4 HR1.out
      have HBk := Lib.hid hbk
      clear hbk hB1
      go_wp2
      obtain ⟨⟨d0, d1, d2, d3⟩, _⟩ := blk4 (set4_blk HR1.out (.int .i64 0) (.int .i64 0) (.string { data := #[] }) (.int .i64 0))
      unfold set4 at d0 d1 d2 d3
      refine bodyPost_ret (v := .tuple #[tkV ⟨0, 0, [], 0⟩, .int .i64 0, .iface 85 (.pointer (some ⟨b, 0, none⟩))]) (by simp [results, Tryd.results87, go_sem, tkV, d0, d1, d2, d3]) rfl ?_
      rw [HX.out]
      exact ⟨set4_below (HB0.out.trans (HB1.out.mono HB0.out.size)) (Nat.le_refl _) _ _ _ _, b, by have := HB0.out.size; have := HBW.out.size; omega, rfl, set4_far HBk.out (by have := HR0.out.lt; have := HBW.out.size; omega) _ _ _ _⟩
    · have h1i : decide ((1 : Int) < (S.size : Int)) = false := by simp; omega
      clear h1 hszi hS0
      go_enter Tryd.func87, Tryd.ntmps87
      go_wp2_with fail
      rw [← hW0]
      clear hW0
      refine HBh.out.mono ?_
      rintro e w' ⟨rfl, rfl⟩
      go_wp2_with fail
      refine HP2.out.mono ?_
      rintro e w1 ⟨hBw, rfl⟩
      have HBW := Lib.hid hBw
      have hg1 := (HE0.out.below hBw).numb
      have HA2 := Lib.hid (HAt.out w1 (HRn.out.below hBw HRn.out.lt))
      clear hBw
      go_wp2_with fail
      refine HA2.out.mono ?_
      rintro e w' ⟨rfl, rfl⟩
      go_wp2_with fail
      refine (HI2.out _).mono ?_
      rintro e w' ⟨rfl, rfl⟩
      go_wp2_with fail
      refine (HFl.out _).mono ?_
      rintro e w' ⟨hB1, b, hb, rfl, hbk⟩
      dsimp only [tkV]
      have HB1 := Lib.hid (HBW.out.trans (hB1.mono HBW.out.size))
      have HR1 := Lib.hid (HR0.out.below HB1.out HR0.out.lt)
      obtain ⟨⟨c0, c1, c2, c3⟩, f0, f1, f2, f3⟩ := blk4 HR1.out
      have HBk := Lib.hid hbk
      clear hbk hB1
      go_wp2
      obtain ⟨⟨d0, d1, d2, d3⟩, _⟩ := blk4 (set4_blk HR1.out (.int .i64 0) (.int .i64 0) (.string { data := #[] }) (.int .i64 0))
      unfold set4 at d0 d1 d2 d3
      refine bodyPost_ret (v := .tuple #[tkV ⟨0, 0, [], 0⟩, .int .i64 0, .iface 85 (.pointer (some ⟨b, 0, none⟩))]) (by simp [results, Tryd.results87, go_sem, tkV, d0, d1, d2, d3]) rfl ?_
      rw [HX.out]
      exact ⟨set4_below (HB0.out.trans (HB1.out.mono HB0.out.size)) (Nat.le_refl _) _ _ _ _, b, by have := HB0.out.size; have := HBW.out.size; omega, rfl, set4_far HBk.out (by have := HR0.out.lt; have := HBW.out.size; omega) _ _ _ _⟩
end Go.Proofs.YtndagbmcdpafjaaDoor
