/-
  The walk of MarkTexts. Conditions: the theorem's own premises.
-/
import Derived.Test.YtollfedellhcoaaLawMkBack
import Derived.RegionTactic
import Derived.ChangeAlike
import Derived.WalkSmall
namespace Go.Proofs.Ytollfedellhcoaa
open Go.RowKit

theorem div_mod_lt {a b p : Nat} (hp : 0 < p) : (a / p % 16 * p + a % p < b / p % 16 * p + b % p) ↔ (a / p % 16 < b / p % 16 ∨ a / p % 16 = b / p % 16 ∧ a % p < b % p) := by
  have h1 := Nat.mod_lt a hp
  have h2 := Nat.mod_lt b hp
  rcases Nat.lt_trichotomy (a / p % 16) (b / p % 16) with h | h | h
  · have := Nat.mul_le_mul_right p h
    rw [Nat.succ_mul] at this
    omega
  · rw [h]; omega
  · have := Nat.mul_le_mul_right p h
    rw [Nat.succ_mul] at this
    omega
theorem less_txG (a b : Nat) : ∀ j, Op.bytesLess (txG j a) (txG j b) = decide (a % 16 ^ j < b % 16 ^ j) := by
  intro j
  induction j with
  | zero => simp [txG, Op.bytesLess, Nat.mod_one]
  | succ j ih =>
    have hp : 0 < 16 ^ j := Nat.pow_pos (by omega)
    have e := div_mod_lt (a := a) (b := b) hp
    have ha : a / 16 ^ j % 16 < 16 := Nat.mod_lt _ (by omega)
    have hb : b / 16 ^ j % 16 < 16 := Nat.mod_lt _ (by omega)
    rw [txG, txG, Op.bytesLess, ih, mod_pow_succ a j, mod_pow_succ b j, show decide (a / 16 ^ j % 16 * 16 ^ j + a % 16 ^ j < b / 16 ^ j % 16 * 16 ^ j + b % 16 ^ j) = decide (a / 16 ^ j % 16 < b / 16 ^ j % 16 ∨ a / 16 ^ j % 16 = b / 16 ^ j % 16 ∧ a % 16 ^ j < b % 16 ^ j) from decide_eq_decide.2 e]
    have e1 : decide (hexd (a / 16 ^ j % 16) < hexd (b / 16 ^ j % 16)) = decide (a / 16 ^ j % 16 < b / 16 ^ j % 16) := decide_eq_decide.2 (by rw [UInt8.lt_iff_toNat_lt]; exact hexd_lt ha hb)
    have e2 : (hexd (a / 16 ^ j % 16) == hexd (b / 16 ^ j % 16)) = decide (a / 16 ^ j % 16 = b / 16 ^ j % 16) := by
      rw [Bool.eq_iff_iff, beq_iff_eq, decide_eq_true_eq]
      constructor
      · intro h
        have h2 := hv_hexd _ ha
        rw [h, hv_hexd _ hb] at h2
        exact (Option.some.inj h2).symm
      · intro h; rw [h]
    rw [e1, e2]
    simp
theorem less_tx {a b : Nat} (ha : a < 18446744073709551616) (hb : b < 18446744073709551616) : Op.bytesLess (ByteArray.mk (tx a).toArray).toList (ByteArray.mk (tx b).toArray).toList = decide ((a : Int) < (b : Int)) := by
  rw [toList_mk, toList_mk, tx, tx, less_txG, Nat.mod_eq_of_lt (by simpa using ha), Nat.mod_eq_of_lt (by simpa using hb)]
  exact decide_eq_decide.2 (by omega)

theorem rdF_mem {c : UInt8} (hc : hv c = none) : ∀ (l : List UInt8) (acc : Nat), c ∈ l → rdF acc l = none := by
  intro l
  induction l with
  | nil => intro acc h; cases h
  | cons x l ih =>
    intro acc h
    rw [rdF]
    cases hx : hv x with
    | none => rfl
    | some d =>
      rcases List.mem_cons.1 h with rfl | h
      · rw [hc] at hx; cases hx
      · exact ih _ h
theorem rd_mem {c : UInt8} {l : List UInt8} (hc : hv c = none) (h : c ∈ l) : rd l = none := by
  unfold rd; split
  · exact rdF_mem hc l 0 h
  · rfl
theorem rd_len {l : List UInt8} (h : l.length ≠ 16) : rd l = none := by unfold rd; rw [if_neg h]

/-- The texts that are none. -/
def badTexts (s : ByteArray) : List ByteArray := [s ++ ByteArray.mk #[48], s.extract 0 15, ByteArray.mk #[], ByteArray.mk #[32] ++ s.extract 1 s.size, s.extract 0 15 ++ ByteArray.mk #[65], s.extract 0 15 ++ ByteArray.mk #[103], ByteArray.mk #[206, 177] ++ s.extract 2 s.size]
theorem bad_none (s : ByteArray) (h : s.size = 16) : ∀ t ∈ badTexts s, rd t.data.toList = none := by
  have hl : s.data.size = 16 := h
  intro t ht
  simp only [badTexts, List.mem_cons, List.not_mem_nil, or_false] at ht
  rcases ht with rfl | rfl | rfl | rfl | rfl | rfl | rfl
  · exact rd_len (by simp; omega)
  · exact rd_len (by simp; omega)
  · exact rd_len (by simp)
  · exact rd_mem (c := 32) (by decide) (by simp)
  · exact rd_mem (c := 65) (by decide) (by simp)
  · exact rd_mem (c := 103) (by decide) (by simp)
  · exact rd_mem (c := 206) (by decide) (by simp)

def badCells (S : ByteArray) : Array Value := #[.string (S ++ ByteArray.mk #[48]), .string (S.extract 0 15), .string (ByteArray.mk #[]), .string (ByteArray.mk #[32] ++ S.extract 1 S.size), .string (S.extract 0 15 ++ ByteArray.mk #[65]), .string (S.extract 0 15 ++ ByteArray.mk #[103]), .string (ByteArray.mk #[206, 177] ++ S.extract 2 S.size)]
theorem bad_cell (w : World) (S : ByteArray) (k : Nat) (hk : k < 7) : ∃ t, t ∈ badTexts S ∧ (w.alloc (.cells (badCells S) 9)).drew.cell? ⟨w.heap.size, k, none⟩ = some (.string t) := by
  have h : ∀ j, (w.alloc (.cells (badCells S) 9)).drew.cell? ⟨w.heap.size, j, none⟩ = (badCells S)[j]? := fun j => World.cell?_alloc_mark w _ _ _ j
  rw [h]
  match k, hk with
  | 0, _ => exact ⟨_, by simp [badTexts], rfl⟩
  | 1, _ => exact ⟨S.extract 0 15, by simp [badTexts], rfl⟩
  | 2, _ => exact ⟨ByteArray.mk #[], by simp [badTexts], rfl⟩
  | 3, _ => exact ⟨ByteArray.mk #[32] ++ S.extract 1 S.size, by simp [badTexts], rfl⟩
  | 4, _ => exact ⟨S.extract 0 15 ++ ByteArray.mk #[65], by simp [badTexts], rfl⟩
  | 5, _ => exact ⟨S.extract 0 15 ++ ByteArray.mk #[103], by simp [badTexts], rfl⟩
  | 6, _ => exact ⟨ByteArray.mk #[206, 177] ++ S.extract 2 S.size, by simp [badTexts], rfl⟩

set_option maxRecDepth 100000 in
set_option maxHeartbeats 1000000 in
theorem markTexts_nat (m n : Nat) (a : Int) (w : World) (hm : m < 18446744073709551616) (hn : n < 18446744073709551616) :
    Calls Try.prog 6 #[.int .u64 (m : Int), .int .u64 (n : Int), .int .i64 a] w (RetYes w) := by
  have HF := Lib.hid (mfirst_any w)
  obtain ⟨S, hS⟩ : ∃ S, S = ByteArray.mk (tx m).toArray := ⟨_, rfl⟩
  obtain ⟨T, hT⟩ : ∃ T, T = ByteArray.mk (tx n).toArray := ⟨_, rfl⟩
  have HT : Hid (∀ W, Calls Try.prog 13 #[.int .u64 (m : Int)] W (RetStr W S)) := Lib.hid (fun W => by rw [hS]; exact text_any m W hm)
  have HU : Hid (∀ W, Calls Try.prog 13 #[.int .u64 (n : Int)] W (RetStr W T)) := Lib.hid (fun W => by rw [hT]; exact text_any n W hn)
  have hless : Op.bytesLess S.toList T.toList = decide ((m : Int) < (n : Int)) := by rw [hS, hT]; exact less_tx hm hn
  have h16 : S.size = 16 := by rw [hS]; exact tx_length m
  have HB := Lib.hid (bad_none S h16)
  have hlen : ((S.size : Int) != 16) = false := by rw [h16]; rfl
  have hl1 : (15 : Int) ≤ (S.size : Int) := by omega
  have hl2 : (1 : Int) ≤ (S.size : Int) := by omega
  have hl3 : (2 : Int) ≤ (S.size : Int) := by omega
  have hl4 : S.size ≤ 16 := by omega
  obtain ⟨k, hk⟩ : ∃ k : Nat, a % 7 = (k : Int) := ⟨(a % 7).toNat, by omega⟩
  have hk7 : k < 7 := by omega
  have HN := Lib.hid (fun W => number_any a 7 W (by omega) (by omega))
  rw [hk] at HN
  clear hk hS hT h16
  go_enter Try.func6, Try.ntmps6
  go_wp2_with fail
  refine HF.out.mono ?_
  rintro e w1 ⟨rfl, hB⟩
  go_wp2_with fail
  refine (HT.out _).mono ?_
  rintro e w2 ⟨rfl, hB2⟩
  have hB2 := below_step hB hB.size hB2
  go_wp2_with fail
  refine (HU.out _).mono ?_
  rintro e w3 ⟨rfl, hB3⟩
  have hB3 := below_step hB2 hB2.size hB3
  go_wp2_with fail
  go_region
  obtain ⟨t, htm, hck⟩ := bad_cell w3 S k hk7
  have hB4 : Below w.heap.size w (w3.alloc (.cells (badCells S) 9)).drew := below_drewN (hB3.alloc hB3.size _) 1
  unfold badCells at hck hB4
  generalize (w3.alloc (.cells #[.string (S ++ ByteArray.mk #[48]), .string (S.extract 0 15), .string (ByteArray.mk #[]), .string (ByteArray.mk #[32] ++ S.extract 1 S.size), .string (S.extract 0 15 ++ ByteArray.mk #[65]), .string (S.extract 0 15 ++ ByteArray.mk #[103]), .string (ByteArray.mk #[206, 177] ++ S.extract 2 S.size)] 9)).drew = w4 at hck hB4 ⊢
  have HQ := Lib.hid (fun W => read_none (HB.out t htm) W)
  clear htm HB
  go_wp2_with fail
  refine (HN.out _).mono ?_
  rintro e w' ⟨rfl, rfl⟩
  go_wp2_with fail
  refine (HQ.out _).mono ?_
  rintro e w5 ⟨rfl, hB5⟩
  have hB5 := below_step hB4 hB4.size hB5
  go_wp2
  go_ret
  exact ⟨rfl, hB5⟩
theorem markTexts_walk (a b c : Int) (w : World) (ha : (Lit.int .u64 a).wf = true) (hb : (Lit.int .u64 b).wf = true) (_ : (Lit.int .i64 c).wf = true) :
    Calls Try.prog 6 #[.int .u64 a, .int .u64 b, .int .i64 c] w (RetYes w) := by
  obtain ⟨m, rfl, hm⟩ := nat_of_u64 ha
  obtain ⟨n, rfl, hn⟩ := nat_of_u64 hb
  exact markTexts_nat m n c w hm hn
end Go.Proofs.Ytollfedellhcoaa
