/-
  The walk of TextKinds. Conditions: none.
-/
import Derived.Test.YtebijoipopiohaaQTxF
namespace Go.Proofs.Ytebijoipopiohaa
open Go.RowKit

theorem kinds_one (r : Int) : (letB r = true → digB r = false ∧ blaB r = false) ∧ (digB r = true → blaB r = false) := by
  simp only [letB, digB, blaB, decide_eq_true_eq, decide_eq_false_iff_not]
  omega

set_option maxRecDepth 100000 in
set_option maxHeartbeats 2000000 in
theorem textKinds_walk (r : Int) (w : World) (_ : (Lit.int .i32 r).wf = true) : Calls Try.prog 4 #[.int .i32 r] w (RetYes w) := by
  obtain ⟨k1, k2⟩ := kinds_one r
  have HF := Lib.hid (first_any w)
  have HL := Lib.hid (fun W => letter_any r W)
  have HD := Lib.hid (fun W => digit_any r W)
  have HBl := Lib.hid (fun W => blank_any r W)
  have HL2 := Lib.hid (fun W => rletter_any r W)
  have HD2 := Lib.hid (fun W => rdigit_any r W)
  have HBl2 := Lib.hid (fun W => rblank_any r W)
  cases hl : letB r <;> cases hd : digB r <;> cases hb : blaB r
  all_goals
    first
      | (exfalso; simp [hl, hd, hb] at k1 k2; done)
      | skip
  all_goals
    rw [hl] at HL HL2
    rw [hd] at HD HD2
    rw [hb] at HBl HBl2
    clear k1 k2 hl hd hb
    go_enter Try.func4, Try.ntmps4
    go_wp2_with fail
    refine HF.out.mono ?_
    rintro e w1 ⟨rfl, hB1⟩
    go_wp2_with fail
    refine (HL.out _).mono ?_
    rintro e w2 ⟨rfl, rfl⟩
    go_wp2_with fail
    refine (HD.out _).mono ?_
    rintro e w2 ⟨rfl, rfl⟩
    go_wp2_with fail
    refine (HBl.out _).mono ?_
    rintro e w2 ⟨rfl, rfl⟩
    go_wp2_with fail
    refine (HL.out _).mono ?_
    rintro e w2 ⟨rfl, rfl⟩
    go_wp2_with fail
    refine (HL2.out _).mono ?_
    rintro e w2 ⟨rfl, rfl⟩
    go_wp2_with fail
    refine (HD.out _).mono ?_
    rintro e w2 ⟨rfl, rfl⟩
    go_wp2_with fail
    refine (HD2.out _).mono ?_
    rintro e w2 ⟨rfl, rfl⟩
    go_wp2_with fail
    refine (HBl.out _).mono ?_
    rintro e w2 ⟨rfl, rfl⟩
    go_wp2_with fail
    refine (HBl2.out _).mono ?_
    rintro e w2 ⟨rfl, rfl⟩
    go_wp2
    go_ret
    exact ⟨rfl, hB1⟩
end Go.Proofs.Ytebijoipopiohaa
