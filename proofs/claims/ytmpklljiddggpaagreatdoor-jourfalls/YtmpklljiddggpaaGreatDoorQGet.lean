/-
  The walks of wire's reading functions: readBits, unzigzag, readNum. Conditions: each theorem's own premises.
-/
import Derived.Test.YtmpklljiddggpaaGreatDoorQPut
import Derived.Deep.QuietTactic
import Derived.BigQuiet
namespace Go.Proofs.YtmpklljiddggpaaGreatDoor
open Go.RowKit

/-- An error made by errors.New, at this place. -/
def errAt (a : Addr) : Value := .iface 190 (.pointer (some a))
/-- Where the three errors of wire lie. -/
structure Errs (w : World) (aE aS aR : Addr) : Prop where
  e : w.cell? ⟨4, 0, none⟩ = some (.iface 190 (.pointer (some aE)))
  s : w.cell? ⟨5, 0, none⟩ = some (.iface 190 (.pointer (some aS)))
  r : w.cell? ⟨1, 0, none⟩ = some (.iface 190 (.pointer (some aR)))
def errOf (aE aS aR : Addr) : Nat → Value
  | 0 => .nilIface
  | 1 => .iface 190 (.pointer (some aS))
  | 2 => .iface 190 (.pointer (some aE))
  | _ => .iface 190 (.pointer (some aR))

/-- What readBits answers. -/
def RetBits (w : World) (aE aS aR : Addr) (l : List UInt8) (e : Ending) (w' : World) : Prop :=
  e = .returned (.tuple #[.int .u64 ((dec 0 0 l).z : Int), .int .i64 ((dec 0 0 l).size : Int), errOf aE aS aR (dec 0 0 l).code]) ∧ ∃ m, w' = w.drewN m

/-- Where readBits' loop stands. -/
def BitsRel (l : List UInt8) (z i : Value) : Prop :=
  ∃ (k X : Nat), k ≤ l.length ∧ k ≤ 9 ∧ X < pw k ∧ i = .int .i64 (k : Int) ∧ z = .int .u64 (X : Int) ∧ dec 0 0 l = dec X k (l.drop k)

theorem retBits_shape {w w' : World} {aE aS aR : Addr} {l : List UInt8} {k X m : Nat} (hk : k < l.length) (hd : dec 0 0 l = dec X k (l.drop k)) (h : (k = 9 ∧ 1 < l[k].toNat) ∨ (0 < k ∧ l[k].toNat = 0)) (hw : w' = w.drewN m) :
    RetBits w aE aS aR l (.returned (.tuple #[.int .u64 0, .int .i64 0, .iface 190 (.pointer (some aS))])) w' := by
  have e : dec 0 0 l = ⟨1, 0, 0⟩ := by rw [hd, List.drop_eq_getElem_cons hk, dec, if_pos h]
  unfold RetBits
  rw [e]
  exact ⟨rfl, m, hw⟩
theorem retBits_end {w w' : World} {aE aS aR : Addr} {l : List UInt8} {k X m : Nat} (hk : l.length ≤ k) (hd : dec 0 0 l = dec X k (l.drop k)) (hw : w' = w.drewN m) :
    RetBits w aE aS aR l (.returned (.tuple #[.int .u64 0, .int .i64 0, .iface 190 (.pointer (some aE))])) w' := by
  have e : dec 0 0 l = ⟨2, 0, 0⟩ := by rw [hd, List.drop_eq_nil_of_le hk, dec]
  unfold RetBits
  rw [e]
  exact ⟨rfl, m, hw⟩
theorem retBits_ok {w w' : World} {aE aS aR : Addr} {l : List UInt8} {k X : Nat} {z i : Int} (hk : k < l.length) (hd : dec 0 0 l = dec X k (l.drop k)) (h : ¬ ((k = 9 ∧ 1 < l[k].toNat) ∨ (0 < k ∧ l[k].toNat = 0))) (hc : l[k].toNat < 128)
    (hz : z = ((X + l[k].toNat % 128 * pw k : Nat) : Int)) (hi : i = (k : Int) + 1) (hw : w' = w) : RetBits w aE aS aR l (.returned (.tuple #[.int .u64 z, .int .i64 i, .nilIface])) w' := by
  have e : dec 0 0 l = ⟨0, X + l[k].toNat % 128 * pw k, k + 1⟩ := by rw [hd, List.drop_eq_getElem_cons hk, dec, if_neg h, if_pos hc]
  unfold RetBits
  rw [e, hz, hi]
  exact ⟨rfl, 0, hw⟩
theorem bitsRel_step {l : List UInt8} {k X : Nat} {z i : Int} (hk : k < l.length) (hk9 : k ≤ 9) (hX : X < pw k) (hd : dec 0 0 l = dec X k (l.drop k)) (h : ¬ ((k = 9 ∧ 1 < l[k].toNat) ∨ (0 < k ∧ l[k].toNat = 0))) (hc : ¬ l[k].toNat < 128)
    (hz : z = ((X + l[k].toNat % 128 * pw k : Nat) : Int)) (hi : i = (k : Int) + 1) : BitsRel l (.int .u64 z) (.int .i64 i) := by
  refine ⟨k + 1, X + l[k].toNat % 128 * pw k, by omega, by omega, ?_, by rw [hi]; rfl, by rw [hz], ?_⟩
  · have := Nat.mul_le_mul_right (pw k) (show l[k].toNat % 128 ≤ 127 by omega)
    rw [pw_succ]; omega
  · rw [hd, List.drop_eq_getElem_cons hk, dec, if_neg h, if_neg hc]

set_option maxHeartbeats 1000000 in
set_option maxRecDepth 100000 in
theorem readBits_some (ad : Addr) (n c : Nat) (l : List UInt8) (w : World) (aE aS aR : Addr) (hn : n = l.length) (hl : n ≤ 4294967296)
    (hs : ∀ j u, l[j]? = some u → w.cell? (ad.add j) = some (.int .u8 (u.toNat : Int))) (he : Errs w aE aS aR) :
    Calls Tryz.prog 108 #[.slice (some ad) n c] w (RetBits w aE aS aR l) := by
  have HN := Lib.hid hn
  have hgE := he.e
  have hgS := he.s
  clear hn he
  go_enter Tryz.func108, Tryz.ntmps108
  go_wp2
  go_loop [5, 10] (fun z i => BitsRel l z i) (fun _ i => (n : Int).toNat - (intOf i).toNat)
  case atStart => exact ⟨0, 0, Nat.zero_le _, by omega, by decide, rfl, rfl, rfl⟩
  case round =>
    obtain ⟨k, X, hkl, hk9, hX, rfl, rfl, hd⟩ := hrel
    have HD := Lib.hid hd
    have HX := Lib.hid hX
    clear hd hX
    by_cases hk : k < l.length
    · have hkn : k < n := by have := HN.out; omega
      have hc := hs k l[k] (List.getElem?_eq_getElem hk)
      have hcb := l[k].toNat_lt
      obtain ⟨u, hu⟩ : ∃ u, u = l[k] := ⟨_, rfl⟩
      rw [← hu] at hc hcb
      have HU := Lib.hid hu
      clear hu hs
      by_cases h9 : k = 9
      · subst h9
        have hc9 : w.cell? ⟨ad.block, ad.off + 9, none⟩ = some (.int .u8 (u.toNat : Int)) := hc
        clear hc
        by_cases hu1 : 1 < u.toNat
        · have hb0 : ((u.toNat : Int) == 0) = false := beq_eq_false_iff_ne.2 (by omega)
          have hb1 : decide ((1 : Int) < (u.toNat : Int)) = true := decide_eq_true (by omega)
          go_wp2_with fail
          go_quiet (fail)
          go_wp2
          go_ret3
          exact retBits_shape hk HD.out (by rw [← HU.out]; omega) rfl
        · have hb1 : decide ((1 : Int) < (u.toNat : Int)) = false := decide_eq_false (by omega)
          by_cases hu0 : u.toNat = 0
          · have hb0 : ((u.toNat : Int) == 0) = true := beq_iff_eq.2 (by omega)
            have H0 := Lib.hid hu0
            clear hu0
            go_wp2_with fail
            go_quiet (fail)
            go_wp2
            go_ret3
            exact retBits_shape hk HD.out (by rw [← HU.out]; have := H0.out; omega) rfl
          · have hb0 : ((u.toNat : Int) == 0) = false := beq_eq_false_iff_ne.2 (by omega)
            go_wp2_with fail
            go_ret3
            exact retBits_ok hk HD.out (by rw [← HU.out]; omega) (by rw [← HU.out]; omega) (by rw [← HU.out]; exact bits_step9 X u HX.out (by omega)) rfl rfl
      · have hb9 : ((k : Int) == 9) = false := beq_eq_false_iff_ne.2 (by omega)
        by_cases hu0 : u.toNat = 0
        · have hb0 : ((u.toNat : Int) == 0) = true := beq_iff_eq.2 (by omega)
          have hub : (u.toNat : Int) < 128 := by omega
          have H0 := Lib.hid hu0
          clear hu0
          by_cases h0 : 0 < k
          · have hb0k : decide ((0 : Int) < (k : Int)) = true := decide_eq_true (by omega)
            go_wp2_with fail
            go_quiet (fail)
            go_wp2
            go_ret3
            exact retBits_shape hk HD.out (by rw [← HU.out]; have := H0.out; omega) rfl
          · have hb0k : decide ((0 : Int) < (k : Int)) = false := decide_eq_false (by omega)
            go_wp2_with fail
            go_ret3
            exact retBits_ok hk HD.out (by rw [← HU.out]; omega) (by rw [← HU.out]; omega) (by rw [← HU.out]; exact bits_step X k u HX.out (by omega)) rfl rfl
        · have hb0 : ((u.toNat : Int) == 0) = false := beq_eq_false_iff_ne.2 (by omega)
          by_cases h0 : u.toNat < 128
          · have hb2 : decide ((u.toNat : Int) < 128) = true := decide_eq_true (by omega)
            go_wp2_with fail
            all_goals (go_ret3; exact retBits_ok hk HD.out (by rw [← HU.out]; omega) (by rw [← HU.out]; omega) (by rw [← HU.out]; exact bits_step X k u HX.out (by omega)) rfl rfl)
          · have hb2 : decide ((u.toNat : Int) < 128) = false := decide_eq_false (by omega)
            go_wp2_with fail
            all_goals exact ⟨bitsRel_step hk hk9 HX.out HD.out (by rw [← HU.out]; omega) (by rw [← HU.out]; omega) (by rw [← HU.out]; exact bits_step X k u HX.out (by omega)) rfl, by simp [intOf]; omega⟩
    · have hkn : ¬ k < n := by have := HN.out; omega
      clear hs
      go_wp2_with fail
      go_quiet (fail)
      go_wp2
      go_ret3
      exact retBits_end (by omega) HD.out rfl

set_option maxHeartbeats 1000000 in
theorem readBits_nil (A : Option Addr) (c : Nat) (w : World) (aE aS aR : Addr) (he : Errs w aE aS aR) :
    Calls Tryz.prog 108 #[.slice A 0 c] w (RetBits w aE aS aR []) := by
  have hgE := he.e
  clear he
  go_enter Tryz.func108, Tryz.ntmps108
  go_wp2
  refine wp_loop_rounds 1 ?_
  rw [rounds_succ]
  go_wp2_with fail
  go_quiet (fail)
  go_wp2
  go_ret3
  exact retBits_end (k := 0) (X := 0) (by simp) rfl rfl
theorem readBits_any (A : Option Addr) (n c : Nat) (l : List UInt8) (w : World) (B : Nat) (aE aS aR : Addr) (hn : n = l.length) (hl : n ≤ 4294967296) (hs : Str w B A l) (he : Errs w aE aS aR) :
    Calls Tryz.prog 108 #[.slice A n c] w (RetBits w aE aS aR l) := by
  by_cases h : l = []
  · subst h
    subst hn
    exact readBits_nil A c w aE aS aR he
  · obtain ⟨ad, rfl, _, hc⟩ := hs.here h
    exact readBits_some ad n c l w aE aS aR hn hl hc he

set_option maxHeartbeats 400000 in
theorem unzigzag_any (z : Nat) (w : World) (hz : z < 18446744073709551616) :
    Calls Tryz.prog 109 #[.int .u64 (z : Int)] w fun e w' => e = .returned (.int .i64 (unzz z)) ∧ w = w' := by
  have HZ := Lib.hid hz
  have hb := low_bit z hz
  clear hz
  by_cases h : z % 2 = 1
  · have hb2 : (bits BinOp.and IntKind.u64 (z : Int) 1 == 1) = true := beq_iff_eq.2 (by rw [hb]; omega)
    have H := Lib.hid h
    clear h hb
    go_enter Tryz.func109, Tryz.ntmps109
    go_wp2
    all_goals (go_ret; exact ⟨ret_int (unzz_odd z HZ.out H.out), rfl⟩)
  · have hb2 : (bits BinOp.and IntKind.u64 (z : Int) 1 == 1) = false := beq_eq_false_iff_ne.2 (by rw [hb]; omega)
    have H := Lib.hid h
    clear h hb
    go_enter Tryz.func109, Tryz.ntmps109
    go_wp2
    all_goals (go_ret; exact ⟨ret_int (unzz_even z HZ.out H.out), rfl⟩)
end Go.Proofs.YtmpklljiddggpaaGreatDoor
