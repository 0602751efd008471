/-
  Plain facts on bits: a complement of 64 bits, a byte whose highest bit is set, seven bits laid above lower ones. Conditions: none.
-/
import Derived.Test.YtmpklljiddggpaaGreatDoorQMath
import Derived.Laws.BitsAllLaws
import Derived.IntWalk
namespace Go.Proofs.YtmpklljiddggpaaGreatDoor
open Go.RowKit

theorem nat_not64 (x : Nat) (h : x < 18446744073709551616) : 18446744073709551615 ^^^ x = 18446744073709551615 - x := by
  have e : (BitVec.allOnes 64 ^^^ BitVec.ofNat 64 x).toNat = (~~~ (BitVec.ofNat 64 x)).toNat := by rw [BitVec.allOnes_xor]
  rw [BitVec.toNat_xor, BitVec.toNat_not, BitVec.toNat_allOnes, BitVec.toNat_ofNat, Nat.mod_eq_of_lt (by omega)] at e
  simpa using e
theorem not64 (x : Nat) (h : x < 18446744073709551616) : bits .xor .u64 IntKind.u64.max (x : Int) = ((18446744073709551615 - x : Nat) : Int) := by
  have e : IntKind.u64.max = ((18446744073709551615 : Nat) : Int) := by decide
  rw [e, u64_xor_nat _ _ (by omega) h, nat_not64 x h]

theorem zz_neg (n : Int) (h1 : -9223372036854775808 ≤ n) (h2 : n < 0) :
    bits .xor .u64 IntKind.u64.max (IntKind.u64.wrap (IntKind.u64.wrap n * 2)) = (zz n : Int) := by
  have e : IntKind.u64.wrap (IntKind.u64.wrap n * 2) = ((18446744073709551616 + 2 * n).toNat : Int) := by
    rw [IntKind.wrap_u64, IntKind.wrap_u64]; omega
  rw [e, not64 _ (by omega)]
  unfold zz
  rw [if_pos h2]; omega
theorem zz_pos (n : Int) (h : 0 ≤ n) : n * 2 = (zz n : Int) := by
  unfold zz
  rw [if_neg (by omega)]; omega

theorem nat_or128 (x : Nat) (h : x < 256) : x ||| 128 = x % 128 + 128 := by
  have h1 : ∀ y : Fin 256, y.val ||| 128 = y.val % 128 + 128 := by decide +kernel
  exact h1 ⟨x, h⟩
theorem or128 (z : Nat) : bits .or .u8 ((z : Int) % 256) 128 = (((UInt8.ofNat (z % 128 + 128)).toNat : Nat) : Int) := by
  have e : (z : Int) % 256 = ((z % 256 : Nat) : Int) := by omega
  rw [e, show (128 : Int) = ((128 : Nat) : Int) from rfl, u8_or_nat _ _ (by omega) (by omega), nat_or128 _ (by omega), ofNat_toNat (by omega)]
  omega
theorem low8 (z : Nat) (h : z < 128) : ((UInt8.ofNat z).toNat : Int) = (z : Int) := by
  rw [ofNat_toNat (by omega)]

theorem mask127 (c : UInt8) : bits .and .u8 (c.toNat : Int) 127 = ((c.toNat % 128 : Nat) : Int) := by
  have h := c.toNat_lt
  rw [show (127 : Int) = ((127 : Nat) : Int) from rfl, u8_and_nat _ _ (by omega) (by omega), nat_mask7]

theorem pw_two (k : Nat) : pw k = 2 ^ (7 * k) := by
  unfold pw
  rw [show (128 : Nat) = 2 ^ 7 from rfl, ← Nat.pow_mul]
theorem or_above (X d k : Nat) (hX : X < pw k) (h : X + d * pw k < 18446744073709551616) :
    bits .or .u64 (X : Int) ((d * pw k : Nat) : Int) = ((X + d * pw k : Nat) : Int) := by
  rw [u64_or_nat _ _ (by omega) (by omega), Nat.or_comm, nat_join (7 * k) _ _ (by rw [pw_two]; exact Nat.mul_mod_left ..) (by rw [← pw_two]; exact hX), Nat.add_comm]
/-- What readBits lays above what it has. -/
theorem bits_step (X k : Nat) (u : UInt8) (hX : X < pw k) (h : k ≤ 8 ∨ k = 9 ∧ u.toNat ≤ 1) :
    bits .or .u64 (X : Int) (IntKind.u64.wrap (IntKind.u64.wrap (bits .and .u8 (u.toNat : Int) 127) * 2 ^ (7 * k))) = ((X + u.toNat % 128 * pw k : Nat) : Int) := by
  have hlt : X + u.toNat % 128 * pw k < 18446744073709551616 := by
    have e9 : pw 9 = 9223372036854775808 := by decide
    rcases h with h | ⟨rfl, h⟩
    · have h1 : pw (k + 1) ≤ pw 9 := Nat.pow_le_pow_right (by omega) (by omega)
      have h2 := Nat.mul_le_mul_right (pw k) (show u.toNat % 128 ≤ 127 by omega)
      rw [pw_succ] at h1
      omega
    · have h2 := Nat.mul_le_mul_right (pw 9) (show u.toNat % 128 ≤ 1 by omega)
      omega
  rw [mask127]
  have e1 : IntKind.u64.wrap ((u.toNat % 128 : Nat) : Int) = ((u.toNat % 128 : Nat) : Int) := by rw [IntKind.wrap_u64]; omega
  have e2 : ((u.toNat % 128 : Nat) : Int) * 2 ^ (7 * k) = ((u.toNat % 128 * pw k : Nat) : Int) := by rw [pw_two]; simp
  have e3 : IntKind.u64.wrap ((u.toNat % 128 * pw k : Nat) : Int) = ((u.toNat % 128 * pw k : Nat) : Int) := by rw [IntKind.wrap_u64]; omega
  rw [e1, e2, e3, or_above X _ k hX hlt]
theorem bits_step9 (X : Nat) (u : UInt8) (hX : X < pw 9) (h : u.toNat ≤ 1) :
    bits .or .u64 (X : Int) (IntKind.u64.wrap (IntKind.u64.wrap (bits .and .u8 (u.toNat : Int) 127) * 9223372036854775808)) = ((X + u.toNat % 128 * pw 9 : Nat) : Int) := by
  have e := bits_step X 9 u hX (.inr ⟨rfl, h⟩)
  rw [show (2 : Int) ^ (7 * 9) = 9223372036854775808 from by decide] at e
  exact e
theorem unzz_odd (z : Nat) (hz : z < 18446744073709551616) (h : z % 2 = 1) : wrap64 (bits .xor .u64 IntKind.u64.max ((z : Int) / 2)) = unzz z := by
  have e : (z : Int) / 2 = ((z / 2 : Nat) : Int) := by omega
  rw [e, not64 _ (by omega)]
  unfold unzz
  rw [if_pos h, wrap64]; omega
theorem unzz_even (z : Nat) (hz : z < 18446744073709551616) (h : ¬ z % 2 = 1) : wrap64 ((z : Int) / 2) = unzz z := by
  unfold unzz
  rw [if_neg h, wrap64]; omega
theorem low_bit (z : Nat) (hz : z < 18446744073709551616) : bits .and .u64 (z : Int) 1 = ((z % 2 : Nat) : Int) := by
  rw [show (1 : Int) = ((1 : Nat) : Int) from rfl, u64_and_nat _ _ hz (by omega), nat_mask1]
theorem or128' (z : Nat) (hz : z < 18446744073709551616) : bits .or .u64 (bits .and .u64 (z : Int) 127) 128 % 256 = (((UInt8.ofNat (z % 128 + 128)).toNat : Nat) : Int) := by
  have e1 : bits .and .u64 (z : Int) 127 = ((z % 128 : Nat) : Int) := by
    rw [show (127 : Int) = ((127 : Nat) : Int) from rfl, u64_and_nat _ _ hz (by omega), nat_mask7]
  rw [e1, show (128 : Int) = ((128 : Nat) : Int) from rfl, u64_or_nat _ _ (by omega) (by omega), nat_or128 _ (by omega), ofNat_toNat (by omega)]
  omega
end Go.Proofs.YtmpklljiddggpaaGreatDoor
