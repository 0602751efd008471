/-
  The walks of mark's Add and Of, and of the statements' own Mark. Conditions: each theorem's own premises.
-/
import Derived.Test.YtollfedellhcoaaWords
import Derived.Test.YtollfedellhcoaaMkMath
namespace Go.Proofs.Ytollfedellhcoaa
open Go.RowKit

theorem ret_u64 {a b : Int} (h : a = b) : Ending.returned (.int .u64 a) = .returned (.int .u64 b) := by rw [h]
theorem wrap_byte (c : UInt8) : IntKind.u64.wrap (c.toNat : Int) = (c.toNat : Int) := by
  have := c.toNat_lt
  rw [IntKind.wrap_u64]; omega
/-- One byte more, as the walk spells it. -/
theorem mstep_walk (m : Nat) (c : UInt8) (h : m < 18446744073709551616) : IntKind.u64.wrap (bits .xor .u64 (m : Int) (IntKind.u64.wrap (c.toNat : Int)) * 1099511628211) = (mstep m c : Int) := by
  have hc : c.toNat < 18446744073709551616 := Nat.lt_trans c.toNat_lt (by decide)
  rw [wrap_byte, u64_xor_nat _ _ h hc, IntKind.wrap_u64]
  unfold mstep
  simp only [Int.natCast_emod, Int.natCast_mul]
  rfl
theorem mstep_round (m : Nat) (s : ByteArray) (k : Nat) (hm : m < 18446744073709551616) (h : k < s.size) :
    Value.int .u64 (IntKind.u64.wrap (bits .xor .u64 (mk m (s.data.toList.take k) : Int) (IntKind.u64.wrap (s[k].toNat : Int)) * 1099511628211)) = .int .u64 (mk m (s.data.toList.take (k + 1)) : Int) := by
  rw [mstep_walk _ s[k] (mk_lt _ m hm), mk_take m s.data.toList k (by simpa using h)]
  rfl
theorem mk_all (m : Nat) (s : ByteArray) (k : Nat) (h : ¬ k < s.size) : mk m (s.data.toList.take k) = mk m s.data.toList := by
  rw [List.take_of_length_le (by simp; omega)]

set_option maxHeartbeats 400000 in
theorem add_any (m : Nat) (s : ByteArray) (w : World) (hm : m < 18446744073709551616) (hs : s.size ≤ maxLen) :
    Calls Try.prog 12 #[.int .u64 (m : Int), .string s] w fun e w' => e = .returned (.int .u64 (mk m s.data.toList : Int)) ∧ w = w' := by
  unfold maxLen at hs
  go_enter Try.func12, Try.ntmps12
  go_wp2
  go_loop [0, 8] (fun n i => ∃ k : Nat, k ≤ s.size ∧ i = .int .i64 k ∧ n = .int .u64 (mk m (s.data.toList.take k) : Int)) (fun _ i => s.size - (intOf i).toNat)
  case atStart => exact ⟨0, Nat.zero_le _, rfl, rfl⟩
  case round =>
    obtain ⟨k, hk, rfl, rfl⟩ := hrel
    have hl := mk_lt (s.data.toList.take k) m hm
    by_cases hlt : k < s.size
    · go_wp2
      go_round
      case rel => exact ⟨k + 1, by omega, by go_num, mstep_round m s k hm hlt⟩
      case measure => simp [intOf]; omega
    · go_wp2
      go_ret
      exact ⟨ret_u64 (by rw [mk_all m s k hlt]), rfl⟩

set_option maxHeartbeats 400000 in
theorem refMark_any (m : Nat) (s : ByteArray) (w : World) (hm : m < 18446744073709551616) (hs : s.size ≤ maxLen) :
    Calls Try.prog 11 #[.int .u64 (m : Int), .string s] w fun e w' => e = .returned (.int .u64 (mk m s.data.toList : Int)) ∧ w = w' := by
  unfold maxLen at hs
  go_enter Try.func11, Try.ntmps11
  go_wp2
  go_loop [0, 5] (fun n i => ∃ k : Nat, k ≤ s.size ∧ i = .int .i64 k ∧ n = .int .u64 (mk m (s.data.toList.take k) : Int)) (fun _ i => s.size - (intOf i).toNat)
  case atStart => exact ⟨0, Nat.zero_le _, rfl, rfl⟩
  case round =>
    obtain ⟨k, hk, rfl, rfl⟩ := hrel
    have hl := mk_lt (s.data.toList.take k) m hm
    by_cases hlt : k < s.size
    · go_wp2
      go_round
      case rel => exact ⟨k + 1, by omega, by go_num, mstep_round m s k hm hlt⟩
      case measure => simp [intOf]; omega
    · go_wp2
      go_ret
      exact ⟨ret_u64 (by rw [mk_all m s k hlt]), rfl⟩

/-- The mark that every text goes on from. -/
def mk0 : Nat := 14695981039346656037
theorem mk0_lt : mk0 < 18446744073709551616 := by decide
theorem of_any (s : ByteArray) (w : World) (hs : s.size ≤ maxLen) :
    Calls Try.prog 10 #[.string s] w fun e w' => e = .returned (.int .u64 (mk mk0 s.data.toList : Int)) ∧ w = w' := by
  have H := Lib.hid (add_any mk0 s w mk0_lt hs)
  go_enter Try.func10, Try.ntmps10
  go_wp2_with fail
  refine H.out.mono ?_
  rintro e w' ⟨rfl, rfl⟩
  go_wp2
  go_ret
  exact ⟨rfl, rfl⟩
end Go.Proofs.Ytollfedellhcoaa
