/-
  The walks of the disk's Write and Read. Conditions: each theorem's own premises.
-/
import Derived.Test.YtmpklljiddggpaaGreatDoorQDkB
import Derived.Lib.ConvBytes
namespace Go.Proofs.YtmpklljiddggpaaGreatDoor
open Go.RowKit Go.Maps

theorem conv_str {B : Nat} {A : Option Addr} {l : List UInt8} (c : Nat) (W : World) (h : Str W B A l) : (convert 88 9 (.slice A l.length c)).run Tryz.prog W = .ok (.string ⟨l.toArray⟩) W := by
  rcases A with _ | ad
  · cases l with
    | nil => exact run_convert_bytes_nil (P := Tryz.prog) W 88 5 Tryz.underlying88 Tryz.underlying5 0 c _ Tryz.underlying9
    | cons x r => obtain ⟨ad, e, _⟩ := h.here (by simp); cases e
  · refine run_convert_bytes_back W 88 9 5 ad c l Tryz.underlying88 Tryz.underlying5 Tryz.underlying9 fun j hj => ?_
    obtain ⟨ad', e, _, hc⟩ := h.pick hj
    cases e
    exact hc

/-- What Write leaves where it does well. -/
def RetW (g f m : Nat) (s : DS) (w : World) (e : Ending) (w' : World) : Prop := e = .returned .nilIface ∧ Dk w' g f m s ∧ Fr [g, m] w w'
set_option maxRecDepth 100000 in
set_option maxHeartbeats 400000 in
theorem write_ok (g f m : Nat) (s : DS) (i : Int) (B : Nat) (A : Option Addr) (c : Nat) (l : List UInt8) (w : World) (hD : Dk w g f m s) (hp : powN s.armed s.down = false) (hi : 0 ≤ i ∧ i < (s.kept.length : Int)) (hl : l.length ≤ 128)
    (hs : Str w B A l) (hB : B ≤ w.heap.size) (hg : ∀ ad, A = some ad → ad.block < B → ad.block ≠ g) (ha : -9223372036854775808 ≤ s.armed ∧ s.armed ≤ 9223372036854775807) (hc : 0 ≤ s.calls ∧ s.calls < 4611686018427387904) :
    Calls Tryz.prog 51 #[.pointer (some ⟨g, 0, none⟩), .int .i64 i, .slice A l.length c] w (RetW g f m { s with pend := insP i l s.pend, calls := s.calls + 1, armed := powA s.armed, down := false } w) := by
  obtain ⟨k, hH, hk1, hk2⟩ := hD.head
  have HD := Lib.hid hD
  have HH := Lib.hid hH
  have HS := Lib.hid hs
  have HP := Lib.hid hp
  have HA := Lib.hid ha
  have HI := Lib.hid hi
  have HG := Lib.hid hg
  clear hD hH hs hp ha hg
  go_enter Tryz.func51, Tryz.ntmps51
  go_wp2_with fail
  refine (powered_head g f m _ k _ _ _ w HH.out HA.out).mono ?_
  rintro e w1 ⟨rfl, hH1, hF1⟩
  rw [HP.out] at hH1 ⊢
  have HH1 := Lib.hid hH1
  have HF1 := Lib.hid hF1
  clear hH1 hF1
  go_wp2_with fail
  refine (has_head g f m _ k _ _ i _ w1 HH1.out).mono ?_
  rintro e w2 ⟨rfl, rfl⟩
  rw [decide_eq_true HI.out]
  have hll : ¬ ((128 : Int) < l.length) := by omega
  go_wp2_with fail
  have c1 : w2.cell? ⟨g, 1, none⟩ = some (.map (some m)) := Blk.cell HH1.out 1
  have hown : w2.drew.ownsMap Tryz.prog 3 contR m s.pend.length (toD s.pend) := owns_fr (HD.out.map) (HF1.out.drew 1) (by simpa using HD.out.mg)
  obtain ⟨w3, hrun, hown3, hgrow3⟩ := hown.update (e := 84) (int_keyed Tryz.underlying3) Tryz.underlying60 (by have := HD.out.ok.length; have := HD.out.nm; simp [maxLen]; omega)
    (keyOf_int_mk Tryz.underlying3 (a := i) (by have := HD.out.nm; exact WalkArith.wf_i64 (by omega))) (contR_some hl)
  change (Instr.mapUpdate 60 (.map (some m)) (.int .i64 i) (.agg #[.bool true, .string ⟨l.toArray⟩])).run Tryz.prog w2.drew = .ok () w3 at hrun
  have HO3 := Lib.hid hown3
  have HG3 := Lib.hid hgrow3
  have hcv : (convert 88 9 (.slice A l.length c)).run Tryz.prog w2.drew = .ok (.string ⟨l.toArray⟩) w2.drew := conv_str c _ (HS.out.fr' (HF1.out.drew 1) hB (by simpa using HG.out))
  have hH3 : Head w3 g f m s.kept.length k s.calls (powA s.armed) false := (hgrow3.block g (Blk.lt HH1.out) (by simpa using HD.out.mg.symm)).trans HH1.out
  have HH3 := Lib.hid hH3
  have d2 : w3.cell? ⟨g, 2, none⟩ = some (.int .i64 s.calls) := Blk.cell hH3 2
  have z2 := Blk.free hH3 2
  clear hown hown3 hgrow3 hH3
  go_region
  go_wp2
  go_ret
  have hF : Fr [g, m] w (w3.setCell ⟨g, 2, none⟩ (.int .i64 (s.calls + 1))) :=
    ((((HF1.out.more (S' := [g, m]) (by simp)).drew 1).grown HG3.out (by simp)).set (.inl (by simp)) _)
  refine ⟨rfl, ⟨⟨k, Blk.set HH3.out 2 _, hk1, hk2⟩, HD.out.row.fr hF (by simp [HD.out.fg, HD.out.mf.symm]), ?_, OkP.ins HI.out.1 HI.out.2 hl HD.out.ok, HD.out.n1, HD.out.nm, HD.out.small, HD.out.fg⟩, hF⟩
  have h5 := own_tight (HO3.out.setCell (a := ⟨g, 2, none⟩) HD.out.mg (.int .i64 (s.calls + 1)))
  rw [put_toD HD.out.ok.1, size_toD] at h5
  exact h5

/-- The errors of the disk, as the variables hold them. -/
structure Es (w : World) (aR aC aF aM : Addr) : Prop where
  r : w.cell? ⟨1, 0, none⟩ = some (.iface 190 (.pointer (some aR)))
  c : w.cell? ⟨3, 0, none⟩ = some (.iface 190 (.pointer (some aC)))
  f : w.cell? ⟨2, 0, none⟩ = some (.iface 190 (.pointer (some aF)))
  m : w.cell? ⟨0, 0, none⟩ = some (.iface 190 (.pointer (some aM)))
theorem Es.fr {w w' : World} {aR aC aF aM : Addr} {S : List Nat} (h : Es w aR aC aF aM) (k : Fr S w w') (hs : ∀ x ∈ S, 1 ≠ x ∧ 3 ≠ x ∧ 2 ≠ x ∧ 0 ≠ x) : Es w' aR aC aF aM := by
  have go : ∀ (b : Nat) (v : Value), w.cell? ⟨b, 0, none⟩ = some v → b ∉ S → w'.cell? ⟨b, 0, none⟩ = some v := fun b v hv hb =>
    (World.cell?_of_block (a := ⟨b, 0, none⟩) (k.block b (World.block_lt_of_cell? w _ hv) hb)).trans hv
  exact ⟨go _ _ h.r fun hx => (hs _ hx).1 rfl, go _ _ h.c fun hx => (hs _ hx).2.1 rfl, go _ _ h.f fun hx => (hs _ hx).2.2.1 rfl, go _ _ h.m fun hx => (hs _ hx).2.2.2 rfl⟩

/-- What a call that may not be leaves: the fuse alone. -/
def RetE (a : Addr) (g f m : Nat) (s : DS) (w : World) (e : Ending) (w' : World) : Prop :=
  e = .returned (.iface 190 (.pointer (some a))) ∧ Dk w' g f m { s with armed := powA s.armed, down := powN s.armed s.down } ∧ Fr [g] w w'
theorem Dk.fused {w w' : World} {g f m k : Nat} {s : DS} (h : Dk w g f m s) {calls a : Int} {d : Bool} (hF : Fr [g] w w') (hH : Head w' g f m s.kept.length k calls a d) (h1 : s.kept.length ≤ k) (h2 : k ≤ maxLen) : Dk w' g f m { s with calls := calls, armed := a, down := d } :=
  ⟨⟨k, hH, h1, h2⟩, h.row.fr hF (by simp [h.fg]), owns_fr h.map hF (by simp [h.mg]), h.ok, h.n1, h.nm, h.small, h.fg⟩

set_option maxRecDepth 100000 in
set_option maxHeartbeats 400000 in
theorem write_err (g f m : Nat) (s : DS) (i : Int) (A : Option Addr) (c len : Nat) (w : World) (aR aC aF aM : Addr) (hD : Dk w g f m s) (hE : Es w aR aC aF aM) (hlow : 1 < g ∧ 3 < g ∧ 2 < g ∧ 0 < g)
    (ha : -9223372036854775808 ≤ s.armed ∧ s.armed ≤ 9223372036854775807) (hno : powN s.armed s.down = true ∨ ¬ (0 ≤ i ∧ i < (s.kept.length : Int)) ∨ 128 < len) :
    Calls Tryz.prog 51 #[.pointer (some ⟨g, 0, none⟩), .int .i64 i, .slice A len c] w (RetE (if powN s.armed s.down then aC else if ¬ (0 ≤ i ∧ i < (s.kept.length : Int)) then aF else aM) g f m s w) := by
  obtain ⟨k, hH, hk1, hk2⟩ := hD.head
  have HD := Lib.hid hD
  have HH := Lib.hid hH
  have HA := Lib.hid ha
  have HE := Lib.hid hE
  have HN := Lib.hid hno
  clear hD hH ha hE hno
  generalize hadr : (if powN s.armed s.down then aC else if ¬ (0 ≤ i ∧ i < (s.kept.length : Int)) then aF else aM) = a
  have HAd := Lib.hid hadr
  clear hadr
  go_enter Tryz.func51, Tryz.ntmps51
  go_wp2_with fail
  refine (powered_head g f m _ k _ _ _ w HH.out HA.out).mono ?_
  rintro e w1 ⟨rfl, hH1, hF1⟩
  have hE1 := HE.out.fr hF1 (by simp; omega)
  obtain ⟨eR, eC, eF, eM⟩ := hE1
  have hfin := HD.out.fused hF1 hH1 hk1 hk2
  have HH1 := Lib.hid hH1
  have HF1 := Lib.hid hF1
  have HFin := Lib.hid hfin
  clear hH1 hF1 hfin eR
  cases hp : powN s.armed s.down
  · go_wp2_with fail
    refine (has_head g f m _ k _ _ i _ w1 HH1.out).mono ?_
    rintro e w2 ⟨rfl, rfl⟩
    by_cases hi : 0 ≤ i ∧ i < (s.kept.length : Int)
    · have hll : (128 : Int) < len := by
        rcases HN.out with h | h | h
        · rw [hp] at h; cases h
        · exact absurd hi h
        · omega
      rw [decide_eq_true hi]
      rw [hp] at HFin
      have HI := Lib.hid hi
      clear hi
      have hadr := HAd.out
      rw [hp, if_neg (by simp), if_neg (by simpa using HI.out)] at hadr
      subst hadr
      have HPp := Lib.hid hp
      clear hp eC eF
      go_wp2
      go_ret
      exact ⟨rfl, by rw [HPp.out]; exact HFin.out, HF1.out⟩
    · rw [decide_eq_false hi]
      rw [hp] at HFin
      have HI := Lib.hid hi
      clear hi
      have hadr := HAd.out
      rw [hp, if_neg (by simp), if_pos HI.out] at hadr
      subst hadr
      have HPp := Lib.hid hp
      clear hp eC eM
      go_wp2
      go_ret
      exact ⟨rfl, by rw [HPp.out]; exact HFin.out, HF1.out⟩
  · rw [hp] at HFin
    have hadr := HAd.out
    rw [hp, if_pos rfl] at hadr
    subst hadr
    have HPp := Lib.hid hp
    clear hp eF eM
    go_wp2
    go_ret
    exact ⟨rfl, by rw [HPp.out]; exact HFin.out, HF1.out⟩
end Go.Proofs.YtmpklljiddggpaaGreatDoor

/-
  The walk of the disk's Read. Conditions: each theorem's own premises.
-/
namespace Go.Proofs.YtmpklljiddggpaaGreatDoor
open Go.RowKit Go.Maps

theorem look_ok {w : World} {m k : Nat} {p : Pend} (hown : w.ownsMap Tryz.prog 3 contR m k (toD p)) {i : Int} (hi : (Lit.int .i64 i).wf = true) :
    (Instr.lookup 60 (.map (some m)) (.int .i64 i) true).run Tryz.prog w = .ok (.tuple #[secV (getP i p), .bool (getP i p).isSome]) w := by
  obtain ⟨v, ps, hrun, hv⟩ := hown.look_ok (e := 84) (int_keyed Tryz.underlying3) Tryz.underlying60 (Tryz.zeroValue84 w) contR_zero (keyOf_int_mk Tryz.underlying3 hi)
  rw [has_toD] at hrun
  rw [atKey_toD] at hv
  cases hg : getP i p with
  | none => rw [hg] at hv hrun; rw [hrun, contR_nil hv]
  | some b => rw [hg] at hv hrun; rw [hrun, contR_lit hv]
theorem look_no {w : World} {m k : Nat} {p : Pend} (hown : w.ownsMap Tryz.prog 3 contR m k (toD p)) {i : Int} (hi : (Lit.int .i64 i).wf = true) :
    (Instr.lookup 60 (.map (some m)) (.int .i64 i) false).run Tryz.prog w = .ok (secV (getP i p)) w := by
  obtain ⟨v, ps, hrun, hv⟩ := hown.lookup (e := 84) (int_keyed Tryz.underlying3) Tryz.underlying60 (Tryz.zeroValue84 w) contR_zero (keyOf_int_mk Tryz.underlying3 hi)
  rw [atKey_toD] at hv
  cases hg : getP i p with
  | none => rw [hg] at hv; rw [hrun, contR_nil hv]
  | some b => rw [hg] at hv; rw [hrun, contR_lit hv]

theorem conv_new (w : World) (l : List UInt8) :
    ∃ (W : World) (cap : Nat), (convert 9 88 (.string ⟨l.toArray⟩)).run Tryz.prog w = .ok (.slice (some ⟨w.heap.size, 0, none⟩) l.length cap) W ∧ Below w.heap.size w W ∧ w.heap.size < W.heap.size ∧
      (∀ k, k < l.length → W.frozen? ⟨w.heap.size, k, none⟩ = false) ∧ Str W W.heap.size (some ⟨w.heap.size, 0, none⟩) l := by
  have hz : (⟨l.toArray⟩ : ByteArray).size = l.length := by simp [ByteArray.size]
  refine ⟨Lib.bytesWorld w 5 ⟨l.toArray⟩, grownCap w (⟨l.toArray⟩ : ByteArray).size 0 5, ?_, ⟨rfl, rfl, rfl, by rw [Lib.bytesWorld_size]; omega, fun i hi => Lib.bytesWorld_at_old w _ _ i hi⟩, by rw [Lib.bytesWorld_size]; omega, ?_, ?_⟩
  · have := Lib.run_convert_string_bytes (P := Tryz.prog) w 9 88 5 ⟨l.toArray⟩ Tryz.underlying9 Tryz.underlying88 Tryz.underlying5
    rw [hz] at this ⊢
    exact this
  · intro k hk
    have hz' : (⟨l.toArray⟩ : ByteArray).size ≤ (Lib.bytesCells w 5 ⟨l.toArray⟩).size := by simp [Lib.bytesCells]; omega
    simp only [World.frozen?, Lib.bytesWorld_at_new]
    simp
    omega
  · refine ⟨fun _ => ⟨_, rfl, by rw [Lib.bytesWorld_size]; show w.heap.size < w.heap.size + 1; omega, fun j u hu => ?_⟩⟩
    rw [lit_add]
    have hj : j < l.length := (List.getElem?_eq_some_iff.1 hu).1
    have := Lib.bytesWorld_cell w 5 ⟨l.toArray⟩ j (by omega)
    rw [this]
    simp [List.getElem?_eq_getElem hj] at hu
    simp [hj, hu]

/-- What a sector reads as. -/
def lookD (s : DS) (i : Nat) : Sec := match getP (i : Int) s.pend with | some b => some b | none => s.kept.getD i none

/-- What Read leaves where it does well. -/
def RetR (x : Sec) (w : World) (e : Ending) (w' : World) : Prop :=
  Below w.heap.size w w' ∧ match x with
  | none => e = .returned (.tuple #[.slice none 0 0, .bool false, .nilIface])
  | some b => ∃ h c, e = .returned (.tuple #[.slice (some ⟨h, 0, none⟩) b.length c, .bool true, .nilIface]) ∧ w.heap.size ≤ h ∧ Str w' w'.heap.size (some ⟨h, 0, none⟩) b ∧ b.length ≤ 128 ∧ ∀ k, k < b.length → w'.frozen? ⟨h, k, none⟩ = false

set_option maxRecDepth 100000 in
set_option maxHeartbeats 400000 in
theorem read_ok (g f m : Nat) (s : DS) (i : Nat) (w : World) (hD : Dk w g f m s) (hd : s.down = false) (hi : i < s.kept.length) :
    Calls Tryz.prog 60 #[.pointer (some ⟨g, 0, none⟩), .int .i64 (i : Int)] w (RetR (lookD s i) w) := by
  obtain ⟨k, hH, hk1, hk2⟩ := hD.head
  have c1 : w.cell? ⟨g, 1, none⟩ = some (.map (some m)) := Blk.cell hH 1
  have c0 : w.cell? ⟨g, 0, none⟩ = some (.slice (some ⟨f, 0, none⟩) s.kept.length k) := Blk.cell hH 0
  have c4 : w.cell? ⟨g, 4, none⟩ = some (.bool false) := (Blk.cell hH 4).trans (by rw [hd]; rfl)
  have hlk := look_ok hD.map (i := (i : Int)) (WalkArith.wf_i64 (by have := hD.nm; omega))
  have hgl := hD.gl
  have hfl := hD.fl
  obtain ⟨cs, hcs, hrow⟩ := hD.row
  obtain ⟨r0, r1⟩ := hrow i (s.kept.getD i none) (by simp [List.getD, List.getElem?_eq_getElem hi])
  have d0 : w.cell? ⟨f, i * 2, none⟩ = _ := (Blk.cell hcs (i * 2)).trans r0
  have d1 : w.cell? ⟨f, i * 2 + 1, none⟩ = _ := (Blk.cell hcs (i * 2 + 1)).trans r1
  have HD := Lib.hid hD
  have HH := Lib.hid hH
  clear hD hH hd hcs r0 r1 hrow
  generalize hk0 : s.kept.getD i none = x0 at d0 d1
  have HK0 := Lib.hid hk0
  clear hk0
  generalize hy : getP (i : Int) s.pend = y at hlk
  rw [secV_eq] at hlk
  have HY := Lib.hid hy
  clear hy
  have hii : (i : Int) < s.kept.length := by omega
  generalize hX : lookD s i = X
  have HX := Lib.hid hX
  clear hX
  go_enter Tryz.func60, Tryz.ntmps60
  go_wp2_with fail
  refine (has_head g f m _ k _ _ _ _ w HH.out).mono ?_
  rintro e w2 ⟨rfl, rfl⟩
  rw [decide_eq_true (show 0 ≤ (i : Int) ∧ (i : Int) < s.kept.length from ⟨by omega, hii⟩)]
  cases y with
  | none =>
    obtain rfl : X = x0 := by rw [← HX.out]; unfold lookD; rw [HY.out, HK0.out]
    clear HX
    cases X with
    | none =>
      simp only [secB, secS, Option.isSome] at hlk d0 d1
      go_wp2
      go_ret3
      exact ⟨(Below.refl _ _).alloc (Nat.le_refl _) _, rfl⟩
    | some b =>
      simp only [secB, secS, Option.isSome] at hlk d0 d1
      have hl : b.length ≤ 128 := by
        have := HD.out.small (some b) (by rw [← HK0.out]; simp [List.getD, List.getElem?_eq_getElem hi])
        exact this
      obtain ⟨W, cap, hcv, hB, hlt, hfz, hst⟩ := conv_new (w2.alloc (.cells #[.bool true, .string ⟨b.toArray⟩] 84)) b
      have e1 : (w2.alloc (.cells #[.bool true, .string ⟨b.toArray⟩] 84)).heap.size = w2.heap.size + 1 := by simp
      have HR := Lib.hid (show RetR (some b) w2 (.returned (.tuple #[.slice (some ⟨w2.heap.size + 1, 0, none⟩) b.length cap, .bool true, .nilIface])) W from by
        rw [e1] at hfz hst hB
        exact ⟨((Below.refl _ w2).alloc (Nat.le_refl _) _).trans (hB.mono (by omega)), _, _, rfl, by omega, hst, hl, hfz⟩)
      rw [e1] at hcv
      clear hB hlt hfz hst
      go_wp2
      go_ret3
      exact HR.out
  | some b =>
    obtain rfl : X = some b := by rw [← HX.out]; unfold lookD; rw [HY.out]
    clear HX
    simp only [secB, secS, Option.isSome] at hlk
    have hl : b.length ≤ 128 := (HD.out.ok.2 _ (getP_mem HY.out)).2.2
    obtain ⟨W, cap, hcv, hB, hlt, hfz, hst⟩ := conv_new (w2.alloc (.cells #[.bool true, .string ⟨b.toArray⟩] 84)) b
    have e1 : (w2.alloc (.cells #[.bool true, .string ⟨b.toArray⟩] 84)).heap.size = w2.heap.size + 1 := by simp
    have HR := Lib.hid (show RetR (some b) w2 (.returned (.tuple #[.slice (some ⟨w2.heap.size + 1, 0, none⟩) b.length cap, .bool true, .nilIface])) W from by
      rw [e1] at hfz hst hB
      exact ⟨((Below.refl _ w2).alloc (Nat.le_refl _) _).trans (hB.mono (by omega)), _, _, rfl, by omega, hst, hl, hfz⟩)
    rw [e1] at hcv
    clear hB hlt hfz hst d0 d1
    go_wp2
    go_ret3
    exact HR.out

/-- What Read leaves where it may not be. -/
def RetRE (a : Addr) (w : World) (e : Ending) (w' : World) : Prop := e = .returned (.tuple #[.slice none 0 0, .bool false, .iface 190 (.pointer (some a))]) ∧ Below w.heap.size w w'
theorem below_drewN (w : World) (n : Nat) : Below w.heap.size w (w.drewN n) := ⟨rfl, rfl, rfl, Nat.le_refl _, fun _ _ => rfl⟩

set_option maxRecDepth 100000 in
set_option maxHeartbeats 400000 in
theorem read_down (g f m : Nat) (s : DS) (i : Int) (w : World) (aR aC aF aM : Addr) (hD : Dk w g f m s) (hE : Es w aR aC aF aM) (hd : s.down = true) :
    Calls Tryz.prog 60 #[.pointer (some ⟨g, 0, none⟩), .int .i64 i] w (RetRE aC w) := by
  obtain ⟨k, hH, hk1, hk2⟩ := hD.head
  obtain ⟨eR, eC, eF, eM⟩ := hE
  have c4 : w.cell? ⟨g, 4, none⟩ = some (.bool true) := (Blk.cell hH 4).trans (by rw [hd]; rfl)
  clear hD hH eR eM eF hd
  go_enter Tryz.func60, Tryz.ntmps60
  go_wp2_with fail
  go_quiet (fail)
  go_wp2
  go_ret3
  exact ⟨rfl, below_drewN _ _⟩
set_option maxRecDepth 100000 in
set_option maxHeartbeats 400000 in
theorem read_full (g f m : Nat) (s : DS) (i : Int) (w : World) (aR aC aF aM : Addr) (hD : Dk w g f m s) (hE : Es w aR aC aF aM) (hd : s.down = false) (hi : ¬ (0 ≤ i ∧ i < (s.kept.length : Int))) :
    Calls Tryz.prog 60 #[.pointer (some ⟨g, 0, none⟩), .int .i64 i] w (RetRE aF w) := by
  obtain ⟨k, hH, hk1, hk2⟩ := hD.head
  obtain ⟨eR, eC, eF, eM⟩ := hE
  have c4 : w.cell? ⟨g, 4, none⟩ = some (.bool false) := (Blk.cell hH 4).trans (by rw [hd]; rfl)
  have HH := Lib.hid hH
  have HI := Lib.hid hi
  clear hD hH eR eM eC hd hi
  go_enter Tryz.func60, Tryz.ntmps60
  go_wp2_with fail
  refine (has_head g f m _ k _ _ _ _ w HH.out).mono ?_
  rintro e w2 ⟨rfl, rfl⟩
  rw [decide_eq_false HI.out]
  go_wp2_with fail
  go_quiet (fail)
  go_wp2
  go_ret3
  exact ⟨rfl, below_drewN _ _⟩
end Go.Proofs.YtmpklljiddggpaaGreatDoor

/-
  The walk of the disk's Crash. Conditions: each theorem's own premises.
-/
namespace Go.Proofs.YtmpklljiddggpaaGreatDoor
open Go.RowKit Go.Maps

/-- The slice at A holds these integers, in a block below B. -/
structure Ints (w : World) (B : Nat) (A : Option Addr) (l : List Int) : Prop where
  here : l ≠ [] → ∃ ad, A = some ad ∧ ad.block < B ∧ ∀ j z, l[j]? = some z → w.cell? (ad.add j) = some (.int .i64 z)
section
variable {w w' : World} {B : Nat} {A : Option Addr} {l : List Int}
theorem Ints.pick (h : Ints w B A l) {k : Nat} (hk : k < l.length) : ∃ ad, A = some ad ∧ ad.block < B ∧ w.cell? (ad.add k) = some (.int .i64 l[k]) := by
  obtain ⟨ad, e, hb, hc⟩ := h.here (by intro h; subst h; simp at hk)
  exact ⟨ad, e, hb, hc k _ (List.getElem?_eq_getElem hk)⟩
theorem Ints.nil : Ints w B A [] := ⟨fun h => absurd rfl h⟩
theorem Ints.keep (h : Ints w B A l) (hk : ∀ p : Addr, A.map (·.block) = some p.block → p.block < B → w'.cell? p = w.cell? p) : Ints w' B A l :=
  ⟨fun hn => by
    obtain ⟨ad, rfl, hb, hc⟩ := h.here hn
    exact ⟨ad, rfl, hb, fun j z hz => (hk _ (by simp [add_block]) (by rw [add_block]; exact hb)).trans (hc j z hz)⟩⟩
theorem Ints.fr {S : List Nat} (h : Ints w B A l) (f : Fr S w w') (hB : B ≤ w.heap.size) (hS : ∀ ad, A = some ad → ad.block < B → ad.block ∉ S) : Ints w' B A l :=
  h.keep fun p hp hb => World.cell?_of_block (f.block p.block (by omega) (by
    obtain ⟨ad, rfl, e⟩ := Option.map_eq_some_iff.1 hp
    rw [← e]
    exact hS ad rfl (by omega)))
end
theorem ints_of_row {W : World} {base n : Nat} {v : Value} {l : List Int} (hl : l.length = n) (h : W.ownsRow base 3 1 v n (l.map fun z => .int .i64 z)) :
    ∃ A c, v = .slice A n c ∧ Ints W W.heap.size A l ∧ ∀ ad, A = some ad → base ≤ ad.block := by
  rcases h.2 with ⟨rfl, hz⟩ | ⟨gb, cap, cur, rfl, hbase, hgb, r1, r2, r3⟩
  · refine ⟨none, 0, by rw [hz], ?_, by simp⟩
    obtain rfl : l = [] := List.eq_nil_of_length_eq_zero (by omega)
    exact Ints.nil
  · refine ⟨some ⟨gb, 0, none⟩, cap, rfl, ⟨fun _ => ⟨_, rfl, (Array.getElem?_eq_some_iff.1 hgb).1, fun j z hz => ?_⟩⟩, fun ad e => by cases e; exact hbase⟩
    exact World.ownsRow.cells h (g := gb) rfl j _ (by rw [List.getElem?_map, hz]; rfl)

/-- Is the first pick odd? -/
def pk : List Int → Bool
  | [] => false
  | z :: _ => oddI z
/-- What is kept behind a crash. -/
def crashK : List Sec → Pend → List Int → List Sec
  | K, [], _ => K
  | K, x :: r, zs => crashK (if pk zs then K.set x.1.toNat (some x.2) else K) r zs.tail
def crashD (s : DS) (zs : List Int) : DS := ⟨crashK s.kept s.pend zs, [], s.calls, 0, false⟩

theorem crashK_length : ∀ (K : List Sec) (p : Pend) (zs : List Int), (crashK K p zs).length = K.length
  | K, [], _ => rfl
  | K, x :: r, zs => by
    unfold crashK
    rw [crashK_length]
    split <;> simp
theorem pk_drop {zs : List Int} {k : Nat} (h : k < zs.length) : pk (zs.drop k) = oddI zs[k] := by
  rw [List.drop_eq_getElem_cons h]
  rfl
theorem pk_none {zs : List Int} {k : Nat} (h : ¬ k < zs.length) : pk (zs.drop k) = false := by
  rw [List.drop_eq_nil_of_le (by omega)]
  rfl
theorem crashK_step {K : List Sec} {p : Pend} {zs : List Int} {k : Nat} (h : k < p.length) : crashK K (p.drop k) (zs.drop k) = crashK (if pk (zs.drop k) then K.set p[k].1.toNat (some p[k].2) else K) (p.drop (k + 1)) (zs.drop (k + 1)) := by
  rw [List.drop_eq_getElem_cons h]
  show crashK _ (p.drop (k + 1)) ((zs.drop k).tail) = _
  rw [List.tail_drop]

/-- The contents turn at one sector. -/
theorem Row.set {w : World} {f : Nat} {K : List Sec} (h : Row w f K) (i : Nat) (x : Sec) (hi : i < K.length) :
    Row ((w.setCell ⟨f, i * 2, none⟩ (.bool (secB x))).setCell ⟨f, i * 2 + 1, none⟩ (.string ⟨(secS x).toArray⟩)) f (K.set i x) := by
  obtain ⟨cs, hcs, hr⟩ := h
  refine ⟨_, Blk.set (Blk.set hcs (i * 2) _) (i * 2 + 1) _, fun j y hy => ?_⟩
  have hi' := hr i K[i] (List.getElem?_eq_getElem hi)
  have b0 : i * 2 < cs.size := (Array.getElem?_eq_some_iff.1 hi'.1).1
  have b1 : i * 2 + 1 < cs.size := (Array.getElem?_eq_some_iff.1 hi'.2).1
  by_cases e : i = j
  · subst e
    rw [List.getElem?_set_self hi] at hy
    cases hy
    refine ⟨?_, ?_⟩
    · rw [Array.getElem?_setIfInBounds, if_neg (by omega), Array.getElem?_setIfInBounds, if_pos rfl, if_pos b0]
    · rw [Array.getElem?_setIfInBounds, if_pos rfl, if_pos (by simpa using b1)]
  · rw [List.getElem?_set_ne e] at hy
    have := hr j y hy
    refine ⟨?_, ?_⟩
    · rw [Array.getElem?_setIfInBounds, if_neg (by omega), Array.getElem?_setIfInBounds, if_neg (by omega)]; exact this.1
    · rw [Array.getElem?_setIfInBounds, if_neg (by omega), Array.getElem?_setIfInBounds, if_neg (by omega)]; exact this.2
theorem Dk.put {w : World} {g f m : Nat} {s : DS} (h : Dk w g f m s) (i : Nat) (x : Sec) (hi : i < s.kept.length) (hx : (secS x).length ≤ 128) :
    Dk ((w.setCell ⟨f, i * 2, none⟩ (.bool (secB x))).setCell ⟨f, i * 2 + 1, none⟩ (.string ⟨(secS x).toArray⟩)) g f m { s with kept := s.kept.set i x } ∧
    Fr [f] w ((w.setCell ⟨f, i * 2, none⟩ (.bool (secB x))).setCell ⟨f, i * 2 + 1, none⟩ (.string ⟨(secS x).toArray⟩)) := by
  have hF : Fr [f] w ((w.setCell ⟨f, i * 2, none⟩ (.bool (secB x))).setCell ⟨f, i * 2 + 1, none⟩ (.string ⟨(secS x).toArray⟩)) := ((Fr.refl [f] w).set (.inl (by simp)) _).set (.inl (by simp)) _
  have hl : (s.kept.set i x).length = s.kept.length := List.length_set
  obtain ⟨c, hH, h1, h2⟩ := h.head
  refine ⟨⟨⟨c, ?_, by rw [hl]; exact h1, h2⟩, h.row.set i x hi, owns_fr h.map hF (by simp [h.mf]), by rw [hl]; exact h.ok, by rw [hl]; exact h.n1, by rw [hl]; exact h.nm, ?_, h.fg⟩, hF⟩
  · show Head _ g f m (s.kept.set i x).length c s.calls s.armed s.down
    rw [hl]
    exact Blk.fr hH hF (by simp [h.fg.symm])
  · intro y hy
    rcases List.mem_or_eq_of_mem_set hy with hy | rfl
    · exact h.small y hy
    · exact hx

theorem getP_at : ∀ {p : Pend} {k : Nat} (hk : k < p.length), p.Pairwise (fun x y => x.1 < y.1) → getP p[k].1 p = some p[k].2
  | x :: r, 0, _, _ => by simp [getP]
  | x :: r, k + 1, hk, h => by
    have ht := List.pairwise_cons.1 h
    have hk' : k < r.length := by simpa using hk
    have := ht.1 r[k] (List.getElem_mem hk')
    show (if x.1 = r[k].1 then some x.2 else getP r[k].1 r) = some r[k].2
    rw [if_neg (by omega)]
    exact getP_at hk' ht.2

/-- Where the loop of Crash stands. -/
def CrRel (w : World) (g f m : Nat) (s : DS) (zs : List Int) (i : Value) (wr : World) : Prop :=
  ∃ (k : Nat) (K : List Sec), i = .int .i64 (k : Int) ∧ k ≤ s.pend.length ∧ K.length = s.kept.length ∧ Dk wr g f m { s with kept := K } ∧ crashK K (s.pend.drop k) (zs.drop k) = crashK s.kept s.pend zs ∧ Fr [f] w wr
theorem cr_skip {w wr : World} {g f m : Nat} {s : DS} {zs : List Int} {k : Nat} {K : List Sec} (hk : k < s.pend.length) (hKl : K.length = s.kept.length) (hD : Dk wr g f m { s with kept := K })
    (hK : crashK K (s.pend.drop k) (zs.drop k) = crashK s.kept s.pend zs) (hF : Fr [f] w wr) (hp : pk (zs.drop k) = false) : CrRel w g f m s zs (.int .i64 ((k : Int) + 1)) wr :=
  ⟨k + 1, K, by go_num, hk, hKl, hD, by rw [← hK, crashK_step hk, hp]; rfl, hF⟩
theorem cr_take {w wr : World} {g f m j : Nat} {s : DS} {zs : List Int} {k : Nat} {K : List Sec} (hk : k < s.pend.length) (hKl : K.length = s.kept.length) (hD : Dk wr g f m { s with kept := K })
    (hK : crashK K (s.pend.drop k) (zs.drop k) = crashK s.kept s.pend zs) (hF : Fr [f] w wr) (hp : pk (zs.drop k) = true) (hj : s.pend[k].1 = (j : Int)) (hjn : j < K.length) (hb : s.pend[k].2.length ≤ 128) :
    CrRel w g f m s zs (.int .i64 ((k : Int) + 1)) (((wr.setCell ⟨f, j * 2, none⟩ (.bool true)).setCell ⟨f, j * 2 + 1, none⟩ (.string ⟨s.pend[k].2.toArray⟩)).drew) := by
  obtain ⟨h1, h2⟩ := hD.put j (some s.pend[k].2) hjn hb
  refine ⟨k + 1, K.set j (some s.pend[k].2), by go_num, hk, by rw [List.length_set]; exact hKl, h1.fr ((Fr.refl [] _).drew 1) (by simp) (by simp) (by simp), ?_, (hF.trans h2 (by simp)).drew 1⟩
  rw [← hK, crashK_step hk, hp, if_pos rfl, hj]
  rfl

/-- What Crash leaves. -/
def RetC (g f m : Nat) (s : DS) (w : World) (e : Ending) (w' : World) : Prop := e = .returned (.tuple #[]) ∧ ∃ m', (m' = m ∨ w.heap.size ≤ m') ∧ Dk w' g f m' s ∧ Fr [g, f] w w'

set_option maxRecDepth 100000 in
set_option maxHeartbeats 1000000 in
theorem crash_any (g f m : Nat) (s : DS) (B : Nat) (A : Option Addr) (n c : Nat) (zs : List Int) (w : World) (hD : Dk w g f m s) (hz : Ints w B A zs) (hn : n = zs.length) (hB : B ≤ w.heap.size) (hf : ∀ ad, A = some ad → ad.block < B → ad.block ≠ f) :
    Calls Tryz.prog 16 #[.pointer (some ⟨g, 0, none⟩), .slice A n c] w (RetC g f m (crashD s zs) w) := by
  obtain ⟨k0, hH, hk1, hk2⟩ := hD.head
  have c1 : w.cell? ⟨g, 1, none⟩ = some (.map (some m)) := Blk.cell hH 1
  have HD := Lib.hid hD
  have HZ := Lib.hid hz
  have HN := Lib.hid hn
  have HAf := Lib.hid hf
  clear hD hH hz hn hf
  go_enter Tryz.func16, Tryz.ntmps16
  go_wp2_with fail
  refine (mapkeys_any (some m) w).mono ?_
  rintro e w1 ⟨rfl, rfl⟩
  have hF1 : Fr [] w (w.alloc (.cells #[.map (some m)] 60)) := (Fr.refl _ _).alloc _
  go_wp2_with fail
  refine (sorted_any s.kept.length m s.pend.length w.heap.size s.pend _ HD.out.ok HD.out.nm (HD.out.map.alloc _) (by simp) (Blk.cell (heap_alloc_new w _) 0)).mono ?_
  rintro e w2 ⟨v, rfl, hrow, hB2⟩
  have hF2 := hF1.belows hB2 (by simp)
  obtain ⟨A2, c2, rfl, hI2, hA2⟩ := ints_of_row (l := s.pend.map (·.1)) (n := s.pend.length) (by simp) (by rw [List.map_map]; exact hrow)
  have HI2 := Lib.hid hI2
  have HA2 := Lib.hid hA2
  have HF2 := Lib.hid hF2
  clear hrow hB2 hF1 hI2 hA2 hF2
  have hpl : s.pend.length ≤ 16384 := by have := HD.out.ok.length; have := HD.out.nm; omega
  go_wp2_with fail
  go_loopw [13] (fun i wr => CrRel w2 g f m s zs i wr) (fun i _ => s.pend.length - (intOf i).toNat)
  case atStart => exact ⟨0, s.kept, rfl, Nat.zero_le _, rfl, HD.out.fr HF2.out (by simp) (by simp) (by simp), rfl, Fr.refl _ _⟩
  case round =>
    obtain ⟨k, K, rfl, hk, hKl, hDk, hK, hFr⟩ := hrel
    by_cases hlt : k < s.pend.length
    · have hltI : (k : Int) < s.pend.length := by omega
      obtain ⟨ad2, rfl, hb2, hc2⟩ := HI2.out.pick (k := k) (by simpa using hlt)
      have ha2 := HA2.out ad2 rfl
      have ha2' : w.heap.size < ad2.block := by simp at ha2; omega
      have hfl := HD.out.fl
      have hc2' : wr.cell? (ad2.add k) = some (.int .i64 s.pend[k].1) := by
        rw [World.cell?_of_block (a := ad2.add k) (hFr.block _ (by rw [add_block]; omega) (by rw [add_block]; simp; omega)), hc2]
        simp
      obtain ⟨j, hj⟩ : ∃ j : Nat, s.pend[k].1 = (j : Int) := ⟨s.pend[k].1.toNat, by have := HD.out.ok.2 s.pend[k] (List.getElem_mem _); omega⟩
      have hjn : j < K.length := by have := HD.out.ok.2 s.pend[k] (List.getElem_mem _); omega
      have hjb : (s.pend[k].2).length ≤ 128 := (HD.out.ok.2 s.pend[k] (List.getElem_mem _)).2.2
      rw [hj] at hc2'
      have HJ := Lib.hid hj
      have HK := Lib.hid hK
      have HDk := Lib.hid hDk
      have HFr := Lib.hid hFr
      have HKl := Lib.hid hKl
      clear hc2 hb2 ha2 hj hK hDk hFr hKl
      by_cases hkn : k < zs.length
      · have hknI : (k : Int) < n := by have := HN.out; omega
        obtain ⟨ad, rfl, hb, hc⟩ := HZ.out.pick hkn
        have hc' : wr.cell? (ad.add k) = some (.int .i64 zs[k]) := by
          rw [World.cell?_of_block (a := ad.add k) (HFr.out.block _ (by have := HF2.out.size; rw [add_block]; omega) (by rw [add_block]; simpa using HAf.out ad rfl hb)), World.cell?_of_block (a := ad.add k) (HF2.out.block _ (by rw [add_block]; omega) (by simp)), hc]
        obtain ⟨z, hz⟩ : ∃ z, z = zs[k] := ⟨_, rfl⟩
        rw [← hz] at hc'
        have HZk := Lib.hid hz
        clear hc hz hb
        go_wp2_with fail
        refine (odd_any z _).mono ?_
        rintro e w3 ⟨rfl, rfl⟩
        cases ho : oddI z
        · have HO := Lib.hid ho
          clear ho
          go_wp2
          go_roundw
          case rel => exact cr_skip hlt HKl.out HDk.out HK.out HFr.out (by rw [pk_drop hkn, ← HZk.out, HO.out])
          case measure => simp [intOf]; omega
        · obtain ⟨k2, hH2, _, _⟩ := HDk.out.head
          have c0' : w3.cell? ⟨g, 0, none⟩ = some (.slice (some ⟨f, 0, none⟩) K.length k2) := Blk.cell hH2 0
          have c1' : w3.cell? ⟨g, 1, none⟩ = some (.map (some m)) := Blk.cell hH2 1
          have hlk : (Instr.lookup 60 (.map (some m)) (.int .i64 (j : Int)) false).run Tryz.prog w3.drew = .ok (.agg #[.bool true, .string ⟨s.pend[k].2.toArray⟩]) w3.drew := by
            have h1 : w3.drew.ownsMap Tryz.prog 3 contR m s.pend.length (toD s.pend) := HDk.out.map.drew
            have h2 := look_no h1 (i := (j : Int)) (WalkArith.wf_i64 (by have := HD.out.nm; have := HKl.out; omega))
            rw [← HJ.out, getP_at hlt HD.out.ok.1, HJ.out] at h2
            exact h2
          obtain ⟨cs, hcs, hrow⟩ := HDk.out.row
          obtain ⟨r0, r1⟩ := hrow j _ (List.getElem?_eq_getElem hjn)
          have d0 : w3.cell? ⟨f, j * 2, none⟩ = _ := (Blk.cell hcs (j * 2)).trans r0
          have d1 : w3.cell? ⟨f, j * 2 + 1, none⟩ = _ := (Blk.cell hcs (j * 2 + 1)).trans r1
          have z0 := Blk.free hcs (j * 2)
          have z1 := Blk.free hcs (j * 2 + 1)
          have hjI : (j : Int) < K.length := by omega
          have HO := Lib.hid ho
          clear hcs hrow r0 r1 hH2 ho
          go_wp2_with fail
          go_region
          go_wp2
          go_roundw
          case rel => exact cr_take hlt HKl.out HDk.out HK.out HFr.out (by rw [pk_drop hkn, ← HZk.out, HO.out]) HJ.out hjn hjb
          case measure => simp [intOf]; omega
      · have hknI : ¬ (k : Int) < n := by have := HN.out; omega
        go_wp2
        go_roundw
        case rel => exact cr_skip hlt HKl.out HDk.out HK.out HFr.out (pk_none hkn)
        case measure => simp [intOf]; omega
    · obtain rfl : k = s.pend.length := by omega
      rw [List.drop_length] at hK
      have hK' : K = crashK s.kept s.pend zs := hK
      subst hK'
      obtain ⟨k2, hH2, h21, h22⟩ := hDk.head
      have HDk := Lib.hid hDk
      have HFr := Lib.hid hFr
      have HH2 := Lib.hid hH2
      clear hDk hFr hH2 hK hKl
      go_wp2_with fail
      refine (settle_head g f m _ k2 _ _ _ wr HH2.out).mono ?_
      rintro e w4 ⟨rfl, hH4, hO4, hF4⟩
      have c3 : w4.cell? ⟨g, 3, none⟩ = some (.int .i64 s.armed) := Blk.cell hH4 3
      have c4 : w4.cell? ⟨g, 4, none⟩ = some (.bool s.down) := Blk.cell hH4 4
      have z3 := Blk.free hH4 3
      have z4 := Blk.free hH4 4
      have HH4 := Lib.hid hH4
      have HO4 := Lib.hid hO4
      have HF4 := Lib.hid hF4
      clear hH4 hO4 hF4
      go_wp2
      go_end0
      have hF0 : Fr [g] wr ((w4.setCell ⟨g, 3, none⟩ (.int .i64 0)).setCell ⟨g, 4, none⟩ (.bool false)) := (HF4.out.set (.inl (by simp)) _).set (.inl (by simp)) _
      have hlw := HFr.out.size
      have hlw2 := HF2.out.size
      refine ⟨rfl, wr.heap.size, .inr (by omega), ⟨⟨k2, Blk.set (Blk.set HH4.out 3 _) 4 _, h21, h22⟩, HDk.out.row.fr hF0 (by simp [HDk.out.fg]), ?_, OkP.nil _, HDk.out.n1, HDk.out.nm, HDk.out.small, HDk.out.fg⟩, ?_⟩
      · have hgl := HDk.out.gl
        exact (HO4.out.setCell (a := ⟨g, 3, none⟩) (show wr.heap.size ≠ g by omega) _).setCell (a := ⟨g, 4, none⟩) (show wr.heap.size ≠ g by omega) _
      · exact ((HF2.out.more (S' := [g, f]) (by simp)).trans HFr.out (by simp)).trans hF0 (by simp)
end Go.Proofs.YtmpklljiddggpaaGreatDoor

/-
  The walk of the disk's Flush. Conditions: each theorem's own premises.
-/
namespace Go.Proofs.YtmpklljiddggpaaGreatDoor
open Go.RowKit Go.Maps

/-- What is kept behind a flush. -/
def flushK (s : DS) : List Sec := (List.range s.kept.length).map (lookD s)
/-- A flush that does well. -/
def flushD (s : DS) : DS := ⟨flushK s, [], s.calls + 1, powA s.armed, false⟩

/-- Where the loop of Flush stands. -/
def FlRel (w : World) (g f m r : Nat) (s : DS) (wr : World) : Prop :=
  ∃ (left : Lit → Bool) (cnt : Nat) (K : List Sec), wr.ranges Tryz.prog 3 contR m r s.pend.length (toD s.pend) left cnt ∧ K.length = s.kept.length ∧ Dk wr g f m { s with kept := K } ∧
    (∀ i : Nat, i < s.kept.length → K.getD i none = if left (.int .i64 (i : Int)) then s.kept.getD i none else lookD s i) ∧ Fr [f, r] w wr

theorem secV_inv (v : Value) (y : DataW Unit × List MemPlace) (h : contR v = some y) : ∃ c : Sec, v = secV c := by
  rcases contR_inv h with ⟨rfl, _⟩ | ⟨b, _, rfl, _⟩
  · exact ⟨none, rfl⟩
  · exact ⟨some b, rfl⟩
theorem secV_inj {a b : Sec} (h : secV a = secV b) : a = b := by
  cases a <;> cases b <;> simp [secV] at h ⊢
  exact h

theorem sec_getD {K : List Sec} {j i : Nat} {x : Sec} (hj : j < K.length) : (K.set j x).getD i none = if j = i then x else K.getD i none := by
  by_cases e : j = i
  · subst e
    simp [List.getD, List.getElem?_set_self hj]
  · simp [List.getD, List.getElem?_set_ne e, e]
theorem fl_start {w1 w0 : World} {g f m : Nat} {s : DS} (hD : Dk w1 g f m s) (hr : w0.ranges Tryz.prog 3 contR m w1.heap.size s.pend.length (toD s.pend) (has (toD s.pend)) (size (toD s.pend))) (hg : w1.grownBy w0 none) : FlRel w1 g f m w1.heap.size s w0 := by
  have hF : Fr [] w1 w0 := (Fr.refl [] w1).grown hg (by simp)
  refine ⟨_, _, s.kept, hr, rfl, hD.fr hF (by simp) (by simp) (by simp), fun i hi => ?_, hF.more (by simp)⟩
  rw [has_toD]
  split
  · rfl
  · rename_i h
    unfold lookD
    cases hq : getP (i : Int) s.pend with
    | none => rfl
    | some b => rw [hq] at h; simp at h
theorem fl_end {s : DS} {left : Lit → Bool} {K : List Sec} (hl : K.length = s.kept.length) (hK : ∀ i : Nat, i < s.kept.length → K.getD i none = if left (.int .i64 (i : Int)) then s.kept.getD i none else lookD s i) (h0 : ∀ kl, left kl = false) : K = flushK s := by
  refine List.ext_getElem (by simp [flushK, hl]) fun i h1 h2 => ?_
  have := hK i (by omega)
  rw [h0] at this
  simp [List.getD, List.getElem?_eq_getElem h1] at this
  simp [flushK, this]
theorem fl_key {p : Pend} {x : Int} {c : Sec} {kl : Lit} {y : DataW Unit × List MemPlace} (hk : keyOf Tryz.prog 3 (.int .i64 x) = some kl) (hy : contR (secV c) = some y) (hat : ∀ zd, (toD p).atKey kl zd = y.1) : kl = .int .i64 x ∧ ∃ b, c = some b ∧ getP x p = some b := by
  obtain ⟨x', ex, rfl, _⟩ := Maps.keyOf_int_inv Tryz.underlying3 hk
  cases ex
  have hh := Maps.has_true_of_atKey hat
  rw [has_toD] at hh
  obtain ⟨b, hb⟩ := Option.isSome_iff_exists.1 hh
  have h1 := hat .nil
  rw [atKey_toD, hb] at h1
  refine ⟨rfl, b, ?_, hb⟩
  rcases y with ⟨y1, y2⟩
  obtain rfl : DataW.lit (.string b) = y1 := h1
  exact secV_inj (contR_lit hy)

theorem Fr.grownBy {f : Nat} {w w' : World} (h : Fr [f] w w') : w.grownBy w' (some f) := ⟨h.os, h.tape, h.output, h.size, fun k hk hn => h.block k hk (by simpa using hn)⟩
theorem fl_step {w w3 : World} {g f m r j cnt : Nat} {s : DS} {left : Lit → Bool} {K : List Sec} {b : List UInt8} (hr : w3.ranges Tryz.prog 3 contR m r s.pend.length (toD s.pend) (fun z => left z && !z.sameKey (.int .i64 (j : Int))) cnt)
    (hKl : K.length = s.kept.length) (hD : Dk w3 g f m { s with kept := K }) (hK : ∀ i : Nat, i < s.kept.length → K.getD i none = if left (.int .i64 (i : Int)) then s.kept.getD i none else lookD s i) (hF : Fr [f, r] w w3)
    (hb : getP (j : Int) s.pend = some b) (hj : j < K.length) (hbl : b.length ≤ 128) (hrf : r ≠ f) (o : Obj) :
    FlRel w g f m r s ((((w3.setCell ⟨f, j * 2, none⟩ (.bool true)).setCell ⟨f, j * 2 + 1, none⟩ (.string ⟨b.toArray⟩)).alloc o).drew) ∧
    ((((w3.setCell ⟨f, j * 2, none⟩ (.bool true)).setCell ⟨f, j * 2 + 1, none⟩ (.string ⟨b.toArray⟩)).alloc o).drew).rangeLeft m r = cnt := by
  obtain ⟨h1, h2⟩ := hD.put j (some b) hj hbl
  have h3 : Fr [f] w3 ((((w3.setCell ⟨f, j * 2, none⟩ (.bool true)).setCell ⟨f, j * 2 + 1, none⟩ (.string ⟨b.toArray⟩)).alloc o).drew) := (h2.alloc o).drew 1
  have h4 : Fr [] ((w3.setCell ⟨f, j * 2, none⟩ (.bool true)).setCell ⟨f, j * 2 + 1, none⟩ (.string ⟨b.toArray⟩)) ((((w3.setCell ⟨f, j * 2, none⟩ (.bool true)).setCell ⟨f, j * 2 + 1, none⟩ (.string ⟨b.toArray⟩)).alloc o).drew) := ((Fr.refl [] _).alloc o).drew 1
  have hr' := hr.kept h3.grownBy (by simpa using hD.mf) (by simpa using hrf)
  refine ⟨⟨_, cnt, K.set j (some b), hr', by rw [List.length_set]; exact hKl, h1.fr h4 (by simp) (by simp) (by simp), fun i hi => ?_, hF.trans h3 (by simp)⟩, hr'.left_eq⟩
  rw [sec_getD hj, same_int]
  by_cases e : j = i
  · subst e
    simp [lookD, hb]
  · rw [if_neg e, hK i hi, decide_eq_false (by omega)]
    simp

/-- What Flush leaves where it does well. -/
def RetF (g f m : Nat) (s : DS) (w : World) (e : Ending) (w' : World) : Prop := e = .returned .nilIface ∧ ∃ m', (m' = m ∨ w.heap.size ≤ m') ∧ Dk w' g f m' s ∧ Fr [g, f] w w'
set_option maxRecDepth 100000 in
set_option maxHeartbeats 1000000 in
theorem flush_ok (g f m : Nat) (s : DS) (w : World) (hD : Dk w g f m s) (hp : powN s.armed s.down = false) (ha : -9223372036854775808 ≤ s.armed ∧ s.armed ≤ 9223372036854775807) (hc : 0 ≤ s.calls ∧ s.calls < 4611686018427387904) :
    Calls Tryz.prog 53 #[.pointer (some ⟨g, 0, none⟩)] w (RetF g f m (flushD s) w) := by
  obtain ⟨k, hH, hk1, hk2⟩ := hD.head
  have HD := Lib.hid hD
  have HH := Lib.hid hH
  have HP := Lib.hid hp
  have HA := Lib.hid ha
  clear hD hH hp ha
  go_enter Tryz.func53, Tryz.ntmps53
  go_wp2_with fail
  refine (powered_head g f m _ k _ _ _ w HH.out HA.out).mono ?_
  rintro e w1 ⟨rfl, hH1, hF1⟩
  rw [HP.out] at hH1 ⊢
  have hD1 := HD.out.fused hF1 hH1 hk1 hk2
  have c1 : w1.cell? ⟨g, 1, none⟩ = some (.map (some m)) := Blk.cell hH1 1
  have hown := hD1.map
  have HD1 := Lib.hid hD1
  have HF1 := Lib.hid hF1
  clear hH1 hF1 hD1
  go_wp2_with (first
    | (at_range; refine wpList_range_own _ rfl _ 60 rfl 3 84 (int_keyed Tryz.underlying3) Tryz.underlying60 _ m s.pend.length _ rfl hown ?_; intro w0 hrg0 hg0 hs0)
    | go_in)
  go_frame
  have H0 := Lib.hid (fl_start (s := { s with armed := powA s.armed, down := false }) HD1.out hrg0 hg0)
  have hrl := hrg0.lt
  clear hrg0 hg0 hs0 hown hrl
  go_loopw [3] (fun _ wr => FlRel w1 g f m w1.heap.size { s with armed := powA s.armed, down := false } wr) (fun _ wr => wr.rangeLeft m w1.heap.size)
  case atStart => exact H0.out
  case round =>
    obtain ⟨left, cnt, K, hrg, hKl, hDk, hK, hFr⟩ := hrel
    go_wp2_with (first
      | (at_next; refine wpList_next_ranges _ rfl _ rfl 3 (int_keyed Tryz.underlying3) contR (Value.int .i64) secV (fun key kl hkey => by obtain ⟨x, rfl, _⟩ := Maps.keyOf_int_inv Tryz.underlying3 hkey; exact ⟨x, rfl⟩) secV_inv m w1.heap.size _ _ _ _ rfl hrg ?_ ?_)
      | go_in)
    · intro hc0 hl0
      have hKe : K = flushK s := fl_end hKl hK hl0
      subst hKe
      obtain ⟨k2, hH2, h21, h22⟩ := hDk.head
      have HDk := Lib.hid hDk
      have HFr := Lib.hid hFr
      have HH2 := Lib.hid hH2
      clear hDk hFr hH2 hK hKl hrg hl0
      go_wp2_with fail
      refine (settle_head g f m _ k2 _ _ _ wr HH2.out).mono ?_
      rintro e w4 ⟨rfl, hH4, hO4, hF4⟩
      have c2 : w4.cell? ⟨g, 2, none⟩ = some (.int .i64 s.calls) := Blk.cell hH4 2
      have z2 := Blk.free hH4 2
      have HH4 := Lib.hid hH4
      have HO4 := Lib.hid hO4
      have HF4 := Lib.hid hF4
      clear hH4 hO4 hF4
      go_wp2
      go_ret
      have hF0 : Fr [g] wr (w4.setCell ⟨g, 2, none⟩ (.int .i64 (s.calls + 1))) := HF4.out.set (.inl (by simp)) _
      have hlw := HFr.out.size
      have hlw2 := HF1.out.size
      refine ⟨rfl, wr.heap.size, .inr (by omega), ⟨⟨k2, Blk.set HH4.out 2 _, h21, h22⟩, HDk.out.row.fr hF0 (by simp [HDk.out.fg]), ?_, OkP.nil _, HDk.out.n1, HDk.out.nm, HDk.out.small, HDk.out.fg⟩, ?_⟩
      · have hgl := HDk.out.gl
        exact HO4.out.setCell (a := ⟨g, 2, none⟩) (show wr.heap.size ≠ g by omega) _
      · exact ((HF1.out.more (S' := [g, f]) (by simp)).trans HFr.out (by simp; omega)).trans hF0 (by simp)
    · intro x c kl y1 y2 w3 cnt3 hkey hlx hv hat hrg3 hlt hg3 hs3 hen
      obtain ⟨rfl, b, rfl, hb⟩ := fl_key hkey hv hat
      have hF3 : Fr [w1.heap.size] wr w3 := (Fr.refl _ wr).grown hg3 (by simp)
      have hfl := HD1.out.fl
      have hgl := HD1.out.gl
      have hml := HD1.out.ml
      have hD3 := hDk.fr hF3 (by simp; omega) (by simp; omega) (by simp; omega)
      have hF03 := hFr.trans hF3 (by simp)
      have hin := hDk.ok.2 _ (getP_mem hb)
      simp only at hin
      obtain ⟨j, rfl⟩ : ∃ j : Nat, x = (j : Int) := ⟨x.toNat, by omega⟩
      have hj : j < K.length := by omega
      have hjI : (j : Int) < K.length := by omega
      have hfin := fun o => fl_step (s := { s with armed := powA s.armed, down := false }) hrg3 hKl hD3 hK hF03 hb hj hin.2.2 (by omega) o
      have HFin := Lib.hid hfin
      have hmeas : w3.rangeLeft m w1.heap.size < wr.rangeLeft m w1.heap.size := by rw [hrg3.left_eq, hrg.left_eq]; exact hlt
      have HM := Lib.hid (show cnt3 < wr.rangeLeft m w1.heap.size by rw [hrg.left_eq]; exact hlt)
      obtain ⟨k2, hH2, h21, h22⟩ := hD3.head
      have c0' : w3.cell? ⟨g, 0, none⟩ = some (.slice (some ⟨f, 0, none⟩) K.length k2) := Blk.cell hH2 0
      obtain ⟨cs, hcs, hrow⟩ := hD3.row
      obtain ⟨r0, r1⟩ := hrow j _ (List.getElem?_eq_getElem hj)
      have d0 : w3.cell? ⟨f, j * 2, none⟩ = _ := (Blk.cell hcs (j * 2)).trans r0
      have d1 : w3.cell? ⟨f, j * 2 + 1, none⟩ = _ := (Blk.cell hcs (j * 2 + 1)).trans r1
      have z0 := Blk.free hcs (j * 2)
      have z1 := Blk.free hcs (j * 2 + 1)
      have hgl3 := hD3.gl
      have hfl3 := hD3.fl
      change (Instr.entry (.pointer (some ⟨w1.heap.size, 0, none⟩))).run Tryz.prog w3 = .ok (.tuple #[.int .i64 (j : Int), .agg #[.bool true, .string ⟨b.toArray⟩]]) w3 at hen
      clear hkey hlx hv hat hrg3 hlt hg3 hs3 hrg hKl hDk hK hFr hF3 hD3 hF03 hfin hmeas hcs hrow r0 r1 hH2 hb hin
      go_wp2_with fail
      go_region
      go_wp2
      go_roundw
      case rel => exact (HFin.out _).1
      case measure => rw [(HFin.out _).2]; exact HM.out
end Go.Proofs.YtmpklljiddggpaaGreatDoor
