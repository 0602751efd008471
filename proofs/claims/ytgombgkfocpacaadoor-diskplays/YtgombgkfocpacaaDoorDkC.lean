/-
  The walks of the disk's Write and Read. Conditions: each theorem's own premises.
-/
import Derived.Test.YtgombgkfocpacaaDoorDkB
import Derived.Lib.ConvBytes
namespace Go.Proofs.YtgombgkfocpacaaDoor
open Go.RowKit Go.Maps

theorem conv_str {B : Nat} {A : Option Addr} {l : List UInt8} (c : Nat) (W : World) (h : Str W B A l) : (convert 33 9 (.slice A l.length c)).run Tryd.prog W = .ok (.string ⟨l.toArray⟩) W := by
  rcases A with _ | ad
  · cases l with
    | nil => exact run_convert_bytes_nil (P := Tryd.prog) W 33 5 Tryd.underlying33 Tryd.underlying5 0 c _ Tryd.underlying9
    | cons x r => obtain ⟨ad, e, _⟩ := h.here (by simp); cases e
  · refine run_convert_bytes_back W 33 9 5 ad c l Tryd.underlying33 Tryd.underlying5 Tryd.underlying9 fun j hj => ?_
    obtain ⟨ad', e, _, hc⟩ := h.pick hj
    cases e
    exact hc

/-- What Write leaves where it does well. -/
def RetW (g f m : Nat) (s : DS) (w : World) (e : Ending) (w' : World) : Prop := e = .returned .nilIface ∧ Dk w' g f m s ∧ Fr [g, m] w w'
set_option maxRecDepth 100000 in
set_option maxHeartbeats 400000 in
theorem write_ok (g f m : Nat) (s : DS) (i : Int) (B : Nat) (A : Option Addr) (c : Nat) (l : List UInt8) (w : World) (hD : Dk w g f m s) (hp : powN s.armed s.down = false) (hi : 0 ≤ i ∧ i < (s.kept.length : Int)) (hl : l.length ≤ 128)
    (hs : Str w B A l) (hB : B ≤ w.heap.size) (hg : ∀ ad, A = some ad → ad.block < B → ad.block ≠ g) (ha : -9223372036854775808 ≤ s.armed ∧ s.armed ≤ 9223372036854775807) (hc : 0 ≤ s.calls ∧ s.calls < 4611686018427387904) :
    Calls Tryd.prog 15 #[.pointer (some ⟨g, 0, none⟩), .int .i64 i, .slice A l.length c] w (RetW g f m { s with pend := insP i l s.pend, calls := s.calls + 1, armed := powA s.armed, down := false } w) := by
  obtain ⟨k, hH, hk1, hk2⟩ := hD.head
  have HD := Lib.hid hD
  have HH := Lib.hid hH
  have HS := Lib.hid hs
  have HP := Lib.hid hp
  have HA := Lib.hid ha
  have HI := Lib.hid hi
  have HG := Lib.hid hg
  clear hD hH hs hp ha hg
  go_enter Tryd.func15, Tryd.ntmps15
  go_wp2_with fail
  refine (powered_head g f m _ k _ _ _ w HH.out HA.out).mono ?_
  rintro e w1 ⟨rfl, hH1, hF1⟩
  rw [HP.out] at hH1 ⊢
  have HH1 := Lib.hid hH1
  have HF1 := Lib.hid hF1
  clear hH1 hF1
  go_wp2_with fail
  refine (has_head g f m _ k _ _ i _ w1 HH1.out).mono ?_
  rintro e w2 ⟨rfl, rfl⟩
  rw [decide_eq_true HI.out]
  have hll : ¬ ((128 : Int) < l.length) := by omega
  go_wp2_with fail
  have c1 : w2.cell? ⟨g, 1, none⟩ = some (.map (some m)) := Blk.cell HH1.out 1
  have hown : w2.drew.ownsMap Tryd.prog 3 contR m s.pend.length (toD s.pend) := owns_fr (HD.out.map) (HF1.out.drew 1) (by simpa using HD.out.mg)
  obtain ⟨w3, hrun, hown3, hgrow3⟩ := hown.update (e := 71) (int_keyed Tryd.underlying3) Tryd.underlying62 (by have := HD.out.ok.length; have := HD.out.nm; simp [maxLen]; omega)
    (keyOf_int_mk Tryd.underlying3 (a := i) (by have := HD.out.nm; exact WalkArith.wf_i64 (by omega))) (contR_some hl)
  change (Instr.mapUpdate 62 (.map (some m)) (.int .i64 i) (.agg #[.bool true, .string ⟨l.toArray⟩])).run Tryd.prog w2.drew = .ok () w3 at hrun
  have HO3 := Lib.hid hown3
  have HG3 := Lib.hid hgrow3
  have hcv : (convert 33 9 (.slice A l.length c)).run Tryd.prog w2.drew = .ok (.string ⟨l.toArray⟩) w2.drew := conv_str c _ (HS.out.fr' (HF1.out.drew 1) hB (by simpa using HG.out))
  have hH3 : Head w3 g f m s.kept.length k s.calls (powA s.armed) false := (hgrow3.block g (Blk.lt HH1.out) (by simpa using HD.out.mg.symm)).trans HH1.out
  have HH3 := Lib.hid hH3
  have d2 : w3.cell? ⟨g, 2, none⟩ = some (.int .i64 s.calls) := Blk.cell hH3 2
  have z2 := Blk.free hH3 2
  clear hown hown3 hgrow3 hH3
  go_region
  go_wp2
  go_ret
  have hF : Fr [g, m] w (w3.setCell ⟨g, 2, none⟩ (.int .i64 (s.calls + 1))) :=
    ((((HF1.out.more (S' := [g, m]) (by simp)).drew 1).grown HG3.out (by simp)).set (.inl (by simp)) _)
  refine ⟨rfl, ⟨⟨k, Blk.set HH3.out 2 _, hk1, hk2⟩, HD.out.row.fr hF (by simp [HD.out.fg, HD.out.mf.symm]), ?_, OkP.ins HI.out.1 HI.out.2 hl HD.out.ok, HD.out.n1, HD.out.nm, HD.out.small, HD.out.fg⟩, hF⟩
  have h5 := own_tight (HO3.out.setCell (a := ⟨g, 2, none⟩) HD.out.mg (.int .i64 (s.calls + 1)))
  rw [put_toD HD.out.ok.1, size_toD] at h5
  exact h5

/-- The errors of the disk, as the variables hold them. -/
structure Es (w : World) (aR aC aF aM : Addr) : Prop where
  r : w.cell? ⟨0, 0, none⟩ = some (.iface 122 (.pointer (some aR)))
  c : w.cell? ⟨1, 0, none⟩ = some (.iface 122 (.pointer (some aC)))
  f : w.cell? ⟨2, 0, none⟩ = some (.iface 122 (.pointer (some aF)))
  m : w.cell? ⟨3, 0, none⟩ = some (.iface 122 (.pointer (some aM)))
theorem Es.fr {w w' : World} {aR aC aF aM : Addr} {S : List Nat} (h : Es w aR aC aF aM) (k : Fr S w w') (hs : ∀ x ∈ S, 0 ≠ x ∧ 1 ≠ x ∧ 2 ≠ x ∧ 3 ≠ x) : Es w' aR aC aF aM := by
  have go : ∀ (b : Nat) (v : Value), w.cell? ⟨b, 0, none⟩ = some v → b ∉ S → w'.cell? ⟨b, 0, none⟩ = some v := fun b v hv hb =>
    (World.cell?_of_block (a := ⟨b, 0, none⟩) (k.block b (World.block_lt_of_cell? w _ hv) hb)).trans hv
  exact ⟨go _ _ h.r fun hx => (hs _ hx).1 rfl, go _ _ h.c fun hx => (hs _ hx).2.1 rfl, go _ _ h.f fun hx => (hs _ hx).2.2.1 rfl, go _ _ h.m fun hx => (hs _ hx).2.2.2 rfl⟩

/-- What a call that may not be leaves: the fuse alone. -/
def RetE (a : Addr) (g f m : Nat) (s : DS) (w : World) (e : Ending) (w' : World) : Prop :=
  e = .returned (.iface 122 (.pointer (some a))) ∧ Dk w' g f m { s with armed := powA s.armed, down := powN s.armed s.down } ∧ Fr [g] w w'
theorem Dk.fused {w w' : World} {g f m k : Nat} {s : DS} (h : Dk w g f m s) {calls a : Int} {d : Bool} (hF : Fr [g] w w') (hH : Head w' g f m s.kept.length k calls a d) (h1 : s.kept.length ≤ k) (h2 : k ≤ maxLen) : Dk w' g f m { s with calls := calls, armed := a, down := d } :=
  ⟨⟨k, hH, h1, h2⟩, h.row.fr hF (by simp [h.fg]), owns_fr h.map hF (by simp [h.mg]), h.ok, h.n1, h.nm, h.small, h.fg⟩

set_option maxRecDepth 100000 in
set_option maxHeartbeats 400000 in
theorem write_err (g f m : Nat) (s : DS) (i : Int) (A : Option Addr) (c len : Nat) (w : World) (aR aC aF aM : Addr) (hD : Dk w g f m s) (hE : Es w aR aC aF aM) (hlow : 0 < g ∧ 1 < g ∧ 2 < g ∧ 3 < g)
    (ha : -9223372036854775808 ≤ s.armed ∧ s.armed ≤ 9223372036854775807) (hno : powN s.armed s.down = true ∨ ¬ (0 ≤ i ∧ i < (s.kept.length : Int)) ∨ 128 < len) :
    Calls Tryd.prog 15 #[.pointer (some ⟨g, 0, none⟩), .int .i64 i, .slice A len c] w (RetE (if powN s.armed s.down then aC else if ¬ (0 ≤ i ∧ i < (s.kept.length : Int)) then aF else aM) g f m s w) := by
  obtain ⟨k, hH, hk1, hk2⟩ := hD.head
  have HD := Lib.hid hD
  have HH := Lib.hid hH
  have HA := Lib.hid ha
  have HE := Lib.hid hE
  have HN := Lib.hid hno
  clear hD hH ha hE hno
  generalize hadr : (if powN s.armed s.down then aC else if ¬ (0 ≤ i ∧ i < (s.kept.length : Int)) then aF else aM) = a
  have HAd := Lib.hid hadr
  clear hadr
  go_enter Tryd.func15, Tryd.ntmps15
  go_wp2_with fail
  refine (powered_head g f m _ k _ _ _ w HH.out HA.out).mono ?_
  rintro e w1 ⟨rfl, hH1, hF1⟩
  have hE1 := HE.out.fr hF1 (by simp; omega)
  obtain ⟨eR, eC, eF, eM⟩ := hE1
  have hfin := HD.out.fused hF1 hH1 hk1 hk2
  have HH1 := Lib.hid hH1
  have HF1 := Lib.hid hF1
  have HFin := Lib.hid hfin
  clear hH1 hF1 hfin eR
  cases hp : powN s.armed s.down
  · go_wp2_with fail
    refine (has_head g f m _ k _ _ i _ w1 HH1.out).mono ?_
    rintro e w2 ⟨rfl, rfl⟩
    by_cases hi : 0 ≤ i ∧ i < (s.kept.length : Int)
    · have hll : (128 : Int) < len := by
        rcases HN.out with h | h | h
        · rw [hp] at h; cases h
        · exact absurd hi h
        · omega
      rw [decide_eq_true hi]
      rw [hp] at HFin
      have HI := Lib.hid hi
      clear hi
      have hadr := HAd.out
      rw [hp, if_neg (by simp), if_neg (by simpa using HI.out)] at hadr
      subst hadr
      have HPp := Lib.hid hp
      clear hp eC eF
      go_wp2
      go_ret
      exact ⟨rfl, by rw [HPp.out]; exact HFin.out, HF1.out⟩
    · rw [decide_eq_false hi]
      rw [hp] at HFin
      have HI := Lib.hid hi
      clear hi
      have hadr := HAd.out
      rw [hp, if_neg (by simp), if_pos HI.out] at hadr
      subst hadr
      have HPp := Lib.hid hp
      clear hp eC eM
      go_wp2
      go_ret
      exact ⟨rfl, by rw [HPp.out]; exact HFin.out, HF1.out⟩
  · rw [hp] at HFin
    have hadr := HAd.out
    rw [hp, if_pos rfl] at hadr
    subst hadr
    have HPp := Lib.hid hp
    clear hp eF eM
    go_wp2
    go_ret
    exact ⟨rfl, by rw [HPp.out]; exact HFin.out, HF1.out⟩
end Go.Proofs.YtgombgkfocpacaaDoor
