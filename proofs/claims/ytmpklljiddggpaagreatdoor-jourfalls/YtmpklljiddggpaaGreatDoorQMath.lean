/-
  Plain mathematics: the zig-zag number of an integer, its bytes, and how they are read back. Conditions: none.
-/
import Derived.Test.YtmpklljiddggpaaGreatDoorQWords
namespace Go.Proofs.YtmpklljiddggpaaGreatDoor

/-- The zig-zag number. -/
def zz (n : Int) : Nat := if n < 0 then (-2 * n - 1).toNat else (2 * n).toNat
def unzz (z : Nat) : Int := if z % 2 = 1 then -((z : Int) / 2) - 1 else (z : Int) / 2

theorem unzz_zz (n : Int) : unzz (zz n) = n := by
  unfold unzz zz
  by_cases h : n < 0
  · rw [if_pos h, if_pos (by omega)]; omega
  · rw [if_neg h, if_neg (by omega)]; omega
theorem zz_lt (n : Int) (h1 : -9223372036854775808 ≤ n) (h2 : n ≤ 9223372036854775807) : zz n < 18446744073709551616 := by
  unfold zz; split <;> omega
theorem zz_inj {a b : Int} (h : zz a = zz b) : a = b := by rw [← unzz_zz a, h, unzz_zz]

/-- The bytes of a zig-zag number, with fuel. -/
def encF : Nat → Nat → List UInt8
  | 0, _ => []
  | f + 1, z => if z < 128 then [UInt8.ofNat z] else UInt8.ofNat (z % 128 + 128) :: encF f (z / 128)
def encZ (z : Nat) : List UInt8 := encF 10 z
def enc (n : Int) : List UInt8 := encZ (zz n)

/-- Seven times so many bits. -/
def pw (k : Nat) : Nat := 128 ^ k
theorem pw_zero : pw 0 = 1 := rfl
theorem pw_succ (k : Nat) : pw (k + 1) = pw k * 128 := Nat.pow_succ ..
theorem pw_pos (k : Nat) : 0 < pw k := Nat.pow_pos (by omega)

theorem encF_length (f : Nat) : ∀ z, (encF f z).length ≤ f := by
  induction f with
  | zero => intro z; simp [encF]
  | succ f ih =>
    intro z
    rw [encF]
    split
    · simp
    · simpa using ih (z / 128)
theorem enc_length (n : Int) : (enc n).length ≤ 10 := encF_length 10 _
theorem encF_pos (f z : Nat) : 0 < (encF (f + 1) z).length := by
  rw [encF]; split <;> simp
theorem enc_pos (n : Int) : 0 < (enc n).length := encF_pos 9 _

/-- What reading says: a number and how many bytes it had; not as it has to be; the end. -/
structure Got where
  code : Nat
  z : Nat
  size : Nat
/-- Reading from the k-th byte on, X gathered so far. code 0: well; 1: the shape; 2: the end. -/
def dec : Nat → Nat → List UInt8 → Got
  | _, _, [] => ⟨2, 0, 0⟩
  | X, k, c :: l =>
    if (k = 9 ∧ 1 < c.toNat) ∨ (0 < k ∧ c.toNat = 0) then ⟨1, 0, 0⟩
    else if c.toNat < 128 then ⟨0, X + c.toNat % 128 * pw k, k + 1⟩
    else dec (X + c.toNat % 128 * pw k) (k + 1) l

theorem ofNat_toNat {n : Nat} (h : n < 256) : (UInt8.ofNat n).toNat = n := by simp; omega

/-- What was put is read. -/
theorem dec_encF (rest : List UInt8) : ∀ (f k z X : Nat), f + k = 10 → 0 < f → z * pw k < 18446744073709551616 → (0 < k → 0 < z) →
    dec X k (encF f z ++ rest) = ⟨0, X + z * pw k, k + (encF f z).length⟩ := by
  intro f
  induction f with
  | zero => intro k z X _ h; omega
  | succ f ih =>
    intro k z X hf _ hz hp
    rw [encF]
    by_cases hs : z < 128
    · rw [if_pos hs]
      simp only [List.cons_append, List.nil_append, dec, List.length_singleton]
      rw [ofNat_toNat (by omega)]
      have h9 : ¬ ((k = 9 ∧ 1 < z) ∨ (0 < k ∧ z = 0)) := by
        rintro (⟨rfl, h1⟩ | ⟨h1, h2⟩)
        · have e : pw 9 = 9223372036854775808 := by decide
          rw [e] at hz; omega
        · have := hp h1; omega
      rw [if_neg h9, if_pos hs, Nat.mod_eq_of_lt hs]
    · rw [if_neg hs]
      simp only [List.cons_append, dec, List.length_cons]
      rw [ofNat_toNat (by omega)]
      have hk : k ≠ 9 := by
        rintro rfl
        have e : pw 9 = 9223372036854775808 := by decide
        rw [e] at hz; omega
      rw [if_neg (by omega), if_neg (by omega)]
      have hm : (z % 128 + 128) % 128 = z % 128 := by omega
      have he : z % 128 * pw k + z / 128 * pw (k + 1) = z * pw k := by
        rw [pw_succ, ← Nat.mul_assoc, Nat.mul_right_comm, ← Nat.add_mul]
        congr 1; omega
      rw [hm, ih (k + 1) (z / 128) _ (by omega) (by omega) (by omega) (by omega)]
      congr 1 <;> omega

theorem dec_enc (n : Int) (h1 : -9223372036854775808 ≤ n) (h2 : n ≤ 9223372036854775807) (rest : List UInt8) :
    dec 0 0 (enc n ++ rest) = ⟨0, zz n, (enc n).length⟩ := by
  have := dec_encF rest 10 0 (zz n) 0 rfl (by omega) (by rw [pw_zero]; have := zz_lt n h1 h2; omega) (by omega)
  simpa [enc, encZ, pw_zero] using this

/-- A number that is well is one of 64 bits. -/
theorem dec_lt : ∀ (l : List UInt8) (X k : Nat), X < pw k → k ≤ 9 → (dec X k l).code = 0 → (dec X k l).z < 18446744073709551616 := by
  intro l
  induction l with
  | nil => intro X k _ _ h; simp [dec] at h
  | cons c l ih =>
    intro X k hX hk h
    rw [dec] at h ⊢
    by_cases h1 : (k = 9 ∧ 1 < c.toNat) ∨ (0 < k ∧ c.toNat = 0)
    · rw [if_pos h1] at h; simp at h
    · rw [if_neg h1] at h ⊢
      have hp := pw_pos k
      have hm : c.toNat % 128 * pw k ≤ 127 * pw k := Nat.mul_le_mul_right _ (by omega)
      have hs := pw_succ k
      by_cases h2 : c.toNat < 128
      · rw [if_pos h2]
        show X + c.toNat % 128 * pw k < _
        by_cases h9 : k = 9
        · subst h9
          have e : pw 9 = 9223372036854775808 := by decide
          have : c.toNat % 128 ≤ 1 := by omega
          have := Nat.mul_le_mul_right (pw 9) this
          omega
        · have : pw (k + 1) ≤ pw 9 := Nat.pow_le_pow_right (by omega) (by omega)
          have e : pw 9 = 9223372036854775808 := by decide
          omega
      · rw [if_neg h2] at h ⊢
        have h9 : k ≠ 9 := by omega
        exact ih _ _ (by omega) (by omega) h

theorem dec_size : ∀ (l : List UInt8) (X k : Nat), (dec X k l).code = 0 → k < (dec X k l).size ∧ (dec X k l).size ≤ k + l.length := by
  intro l
  induction l with
  | nil => intro X k h; simp [dec] at h
  | cons c l ih =>
    intro X k h
    rw [dec] at h ⊢
    by_cases h1 : (k = 9 ∧ 1 < c.toNat) ∨ (0 < k ∧ c.toNat = 0)
    · rw [if_pos h1] at h; simp at h
    · rw [if_neg h1] at h ⊢
      by_cases h2 : c.toNat < 128
      · rw [if_pos h2]; simp
      · rw [if_neg h2] at h ⊢
        have := ih _ _ h
        simp; omega
end Go.Proofs.YtmpklljiddggpaaGreatDoor
