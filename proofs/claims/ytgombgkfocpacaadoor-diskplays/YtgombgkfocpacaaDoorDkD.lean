/-
  The walk of the disk's Read. Conditions: each theorem's own premises.
-/
import Derived.Test.YtgombgkfocpacaaDoorDkC
import Derived.Lib.ConvBytes
namespace Go.Proofs.YtgombgkfocpacaaDoor
open Go.RowKit Go.Maps

theorem look_ok {w : World} {m k : Nat} {p : Pend} (hown : w.ownsMap Tryd.prog 3 contR m k (toD p)) {i : Int} (hi : (Lit.int .i64 i).wf = true) :
    (Instr.lookup 62 (.map (some m)) (.int .i64 i) true).run Tryd.prog w = .ok (.tuple #[secV (getP i p), .bool (getP i p).isSome]) w := by
  obtain ⟨v, ps, hrun, hv⟩ := hown.look_ok (e := 71) (int_keyed Tryd.underlying3) Tryd.underlying62 (Tryd.zeroValue71 w) contR_zero (keyOf_int_mk Tryd.underlying3 hi)
  rw [has_toD] at hrun
  rw [atKey_toD] at hv
  cases hg : getP i p with
  | none => rw [hg] at hv hrun; rw [hrun, contR_nil hv]
  | some b => rw [hg] at hv hrun; rw [hrun, contR_lit hv]
theorem look_no {w : World} {m k : Nat} {p : Pend} (hown : w.ownsMap Tryd.prog 3 contR m k (toD p)) {i : Int} (hi : (Lit.int .i64 i).wf = true) :
    (Instr.lookup 62 (.map (some m)) (.int .i64 i) false).run Tryd.prog w = .ok (secV (getP i p)) w := by
  obtain ⟨v, ps, hrun, hv⟩ := hown.lookup (e := 71) (int_keyed Tryd.underlying3) Tryd.underlying62 (Tryd.zeroValue71 w) contR_zero (keyOf_int_mk Tryd.underlying3 hi)
  rw [atKey_toD] at hv
  cases hg : getP i p with
  | none => rw [hg] at hv; rw [hrun, contR_nil hv]
  | some b => rw [hg] at hv; rw [hrun, contR_lit hv]

theorem conv_new (w : World) (l : List UInt8) :
    ∃ (W : World) (cap : Nat), (convert 9 33 (.string ⟨l.toArray⟩)).run Tryd.prog w = .ok (.slice (some ⟨w.heap.size, 0, none⟩) l.length cap) W ∧ Below w.heap.size w W ∧ w.heap.size < W.heap.size ∧
      (∀ k, k < l.length → W.frozen? ⟨w.heap.size, k, none⟩ = false) ∧ Str W W.heap.size (some ⟨w.heap.size, 0, none⟩) l := by
  have hz : (⟨l.toArray⟩ : ByteArray).size = l.length := by simp [ByteArray.size]
  refine ⟨Lib.bytesWorld w 5 ⟨l.toArray⟩, grownCap w (⟨l.toArray⟩ : ByteArray).size 0 5, ?_, ⟨rfl, rfl, rfl, by rw [Lib.bytesWorld_size]; omega, fun i hi => Lib.bytesWorld_at_old w _ _ i hi⟩, by rw [Lib.bytesWorld_size]; omega, ?_, ?_⟩
  · have := Lib.run_convert_string_bytes (P := Tryd.prog) w 9 33 5 ⟨l.toArray⟩ Tryd.underlying9 Tryd.underlying33 Tryd.underlying5
    rw [hz] at this ⊢
    exact this
  · intro k hk
    have hz' : (⟨l.toArray⟩ : ByteArray).size ≤ (Lib.bytesCells w 5 ⟨l.toArray⟩).size := by simp [Lib.bytesCells]; omega
    simp only [World.frozen?, Lib.bytesWorld_at_new]
    simp
    omega
  · refine ⟨fun _ => ⟨_, rfl, by rw [Lib.bytesWorld_size]; show w.heap.size < w.heap.size + 1; omega, fun j u hu => ?_⟩⟩
    rw [lit_add]
    have hj : j < l.length := (List.getElem?_eq_some_iff.1 hu).1
    have := Lib.bytesWorld_cell w 5 ⟨l.toArray⟩ j (by omega)
    rw [this]
    simp [List.getElem?_eq_getElem hj] at hu
    simp [hj, hu]

/-- What a sector reads as. -/
def lookD (s : DS) (i : Nat) : Sec := match getP (i : Int) s.pend with | some b => some b | none => s.kept.getD i none

/-- What Read leaves where it does well. -/
def RetR (x : Sec) (w : World) (e : Ending) (w' : World) : Prop :=
  Below w.heap.size w w' ∧ match x with
  | none => e = .returned (.tuple #[.slice none 0 0, .bool false, .nilIface])
  | some b => ∃ h c, e = .returned (.tuple #[.slice (some ⟨h, 0, none⟩) b.length c, .bool true, .nilIface]) ∧ w.heap.size ≤ h ∧ Str w' w'.heap.size (some ⟨h, 0, none⟩) b ∧ b.length ≤ 128 ∧ ∀ k, k < b.length → w'.frozen? ⟨h, k, none⟩ = false

set_option maxRecDepth 100000 in
set_option maxHeartbeats 400000 in
theorem read_ok (g f m : Nat) (s : DS) (i : Nat) (w : World) (hD : Dk w g f m s) (hd : s.down = false) (hi : i < s.kept.length) :
    Calls Tryd.prog 26 #[.pointer (some ⟨g, 0, none⟩), .int .i64 (i : Int)] w (RetR (lookD s i) w) := by
  obtain ⟨k, hH, hk1, hk2⟩ := hD.head
  have c1 : w.cell? ⟨g, 1, none⟩ = some (.map (some m)) := Blk.cell hH 1
  have c0 : w.cell? ⟨g, 0, none⟩ = some (.slice (some ⟨f, 0, none⟩) s.kept.length k) := Blk.cell hH 0
  have c4 : w.cell? ⟨g, 4, none⟩ = some (.bool false) := (Blk.cell hH 4).trans (by rw [hd]; rfl)
  have hlk := look_ok hD.map (i := (i : Int)) (WalkArith.wf_i64 (by have := hD.nm; omega))
  have hgl := hD.gl
  have hfl := hD.fl
  obtain ⟨cs, hcs, hrow⟩ := hD.row
  obtain ⟨r0, r1⟩ := hrow i (s.kept.getD i none) (by simp [List.getD, List.getElem?_eq_getElem hi])
  have d0 : w.cell? ⟨f, i * 2, none⟩ = _ := (Blk.cell hcs (i * 2)).trans r0
  have d1 : w.cell? ⟨f, i * 2 + 1, none⟩ = _ := (Blk.cell hcs (i * 2 + 1)).trans r1
  have HD := Lib.hid hD
  have HH := Lib.hid hH
  clear hD hH hd hcs r0 r1 hrow
  generalize hk0 : s.kept.getD i none = x0 at d0 d1
  have HK0 := Lib.hid hk0
  clear hk0
  generalize hy : getP (i : Int) s.pend = y at hlk
  rw [secV_eq] at hlk
  have HY := Lib.hid hy
  clear hy
  have hii : (i : Int) < s.kept.length := by omega
  generalize hX : lookD s i = X
  have HX := Lib.hid hX
  clear hX
  go_enter Tryd.func26, Tryd.ntmps26
  go_wp2_with fail
  refine (has_head g f m _ k _ _ _ _ w HH.out).mono ?_
  rintro e w2 ⟨rfl, rfl⟩
  rw [decide_eq_true (show 0 ≤ (i : Int) ∧ (i : Int) < s.kept.length from ⟨by omega, hii⟩)]
  cases y with
  | none =>
    obtain rfl : X = x0 := by rw [← HX.out]; unfold lookD; rw [HY.out, HK0.out]
    clear HX
    cases X with
    | none =>
      simp only [secB, secS, Option.isSome] at hlk d0 d1
      go_wp2
      go_ret3
      exact ⟨(Below.refl _ _).alloc (Nat.le_refl _) _, rfl⟩
    | some b =>
      simp only [secB, secS, Option.isSome] at hlk d0 d1
      have hl : b.length ≤ 128 := by
        have := HD.out.small (some b) (by rw [← HK0.out]; simp [List.getD, List.getElem?_eq_getElem hi])
        exact this
      obtain ⟨W, cap, hcv, hB, hlt, hfz, hst⟩ := conv_new (w2.alloc (.cells #[.bool true, .string ⟨b.toArray⟩] 71)) b
      have e1 : (w2.alloc (.cells #[.bool true, .string ⟨b.toArray⟩] 71)).heap.size = w2.heap.size + 1 := by simp
      have HR := Lib.hid (show RetR (some b) w2 (.returned (.tuple #[.slice (some ⟨w2.heap.size + 1, 0, none⟩) b.length cap, .bool true, .nilIface])) W from by
        rw [e1] at hfz hst hB
        exact ⟨((Below.refl _ w2).alloc (Nat.le_refl _) _).trans (hB.mono (by omega)), _, _, rfl, by omega, hst, hl, hfz⟩)
      rw [e1] at hcv
      clear hB hlt hfz hst
      go_wp2
      go_ret3
      exact HR.out
  | some b =>
    obtain rfl : X = some b := by rw [← HX.out]; unfold lookD; rw [HY.out]
    clear HX
    simp only [secB, secS, Option.isSome] at hlk
    have hl : b.length ≤ 128 := (HD.out.ok.2 _ (getP_mem HY.out)).2.2
    obtain ⟨W, cap, hcv, hB, hlt, hfz, hst⟩ := conv_new (w2.alloc (.cells #[.bool true, .string ⟨b.toArray⟩] 71)) b
    have e1 : (w2.alloc (.cells #[.bool true, .string ⟨b.toArray⟩] 71)).heap.size = w2.heap.size + 1 := by simp
    have HR := Lib.hid (show RetR (some b) w2 (.returned (.tuple #[.slice (some ⟨w2.heap.size + 1, 0, none⟩) b.length cap, .bool true, .nilIface])) W from by
      rw [e1] at hfz hst hB
      exact ⟨((Below.refl _ w2).alloc (Nat.le_refl _) _).trans (hB.mono (by omega)), _, _, rfl, by omega, hst, hl, hfz⟩)
    rw [e1] at hcv
    clear hB hlt hfz hst d0 d1
    go_wp2
    go_ret3
    exact HR.out

/-- What Read leaves where it may not be. -/
def RetRE (a : Addr) (w : World) (e : Ending) (w' : World) : Prop := e = .returned (.tuple #[.slice none 0 0, .bool false, .iface 122 (.pointer (some a))]) ∧ Below w.heap.size w w'
theorem below_drewN (w : World) (n : Nat) : Below w.heap.size w (w.drewN n) := ⟨rfl, rfl, rfl, Nat.le_refl _, fun _ _ => rfl⟩

set_option maxRecDepth 100000 in
set_option maxHeartbeats 400000 in
theorem read_down (g f m : Nat) (s : DS) (i : Int) (w : World) (aR aC aF aM : Addr) (hD : Dk w g f m s) (hE : Es w aR aC aF aM) (hd : s.down = true) :
    Calls Tryd.prog 26 #[.pointer (some ⟨g, 0, none⟩), .int .i64 i] w (RetRE aC w) := by
  obtain ⟨k, hH, hk1, hk2⟩ := hD.head
  obtain ⟨eR, eC, eF, eM⟩ := hE
  have c4 : w.cell? ⟨g, 4, none⟩ = some (.bool true) := (Blk.cell hH 4).trans (by rw [hd]; rfl)
  clear hD hH eR eM eF hd
  go_enter Tryd.func26, Tryd.ntmps26
  go_wp2_with fail
  go_quiet (fail)
  go_wp2
  go_ret3
  exact ⟨rfl, below_drewN _ _⟩
set_option maxRecDepth 100000 in
set_option maxHeartbeats 400000 in
theorem read_full (g f m : Nat) (s : DS) (i : Int) (w : World) (aR aC aF aM : Addr) (hD : Dk w g f m s) (hE : Es w aR aC aF aM) (hd : s.down = false) (hi : ¬ (0 ≤ i ∧ i < (s.kept.length : Int))) :
    Calls Tryd.prog 26 #[.pointer (some ⟨g, 0, none⟩), .int .i64 i] w (RetRE aF w) := by
  obtain ⟨k, hH, hk1, hk2⟩ := hD.head
  obtain ⟨eR, eC, eF, eM⟩ := hE
  have c4 : w.cell? ⟨g, 4, none⟩ = some (.bool false) := (Blk.cell hH 4).trans (by rw [hd]; rfl)
  have HH := Lib.hid hH
  have HI := Lib.hid hi
  clear hD hH eR eM eC hd hi
  go_enter Tryd.func26, Tryd.ntmps26
  go_wp2_with fail
  refine (has_head g f m _ k _ _ _ _ w HH.out).mono ?_
  rintro e w2 ⟨rfl, rfl⟩
  rw [decide_eq_false HI.out]
  go_wp2_with fail
  go_quiet (fail)
  go_wp2
  go_ret3
  exact ⟨rfl, below_drewN _ _⟩
end Go.Proofs.YtgombgkfocpacaaDoor
