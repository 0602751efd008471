/-
  Plain mathematics: marks of texts, marks as sixteen digits, digits as a mark. Conditions: none.
-/
import Derived.Laws.BitsAllLaws
import Derived.IntWalk
namespace Go.Proofs.Ytollfedellhcoaa

/-- One byte more. -/
def mstep (m : Nat) (c : UInt8) : Nat := (m ^^^ c.toNat) * 1099511628211 % 18446744073709551616
/-- The mark of a text, going on from m. -/
def mk (m : Nat) (l : List UInt8) : Nat := l.foldl mstep m
theorem mstep_lt (m : Nat) (c : UInt8) : mstep m c < 18446744073709551616 := Nat.mod_lt _ (by omega)
theorem mk_lt (l : List UInt8) : ∀ m, m < 18446744073709551616 → mk m l < 18446744073709551616 := by
  induction l with
  | nil => intro m h; exact h
  | cons c l ih => intro m _; exact ih _ (mstep_lt m c)
theorem mk_nil (m : Nat) : mk m [] = m := rfl
theorem mk_append (m : Nat) (a b : List UInt8) : mk m (a ++ b) = mk (mk m a) b := by simp [mk, List.foldl_append]
theorem mk_snoc (m : Nat) (a : List UInt8) (c : UInt8) : mk m (a ++ [c]) = mstep (mk m a) c := by unfold mk; rw [List.foldl_append, List.foldl_cons, List.foldl_nil]
theorem mk_take (m : Nat) (l : List UInt8) (k : Nat) (h : k < l.length) : mk m (l.take (k + 1)) = mstep (mk m (l.take k)) l[k] := by
  rw [List.take_succ_eq_append_getElem h, mk_snoc]

theorem xor_lt64 (m : Nat) (c : UInt8) (h : m < 18446744073709551616) : m ^^^ c.toNat < 18446744073709551616 := by
  have e : (18446744073709551616 : Nat) = 2 ^ 64 := by decide
  have hc : c.toNat < 18446744073709551616 := Nat.lt_trans c.toNat_lt (by decide)
  rw [e] at h hc ⊢
  exact Nat.xor_lt_two_pow h hc
theorem mstep_back (m : Nat) (c : UInt8) (h : m < 18446744073709551616) : mstep m c * 14886173955864302971 % 18446744073709551616 = m ^^^ c.toNat := by
  have hx := xor_lt64 m c h
  unfold mstep
  generalize m ^^^ c.toNat = x at hx ⊢
  omega
theorem mstep_inj {m : Nat} {a b : UInt8} (h : m < 18446744073709551616) (e : mstep m a = mstep m b) : a = b := by
  have e1 : m ^^^ a.toNat = m ^^^ b.toNat := by rw [← mstep_back m a h, ← mstep_back m b h, e]
  have e2 : m ^^^ (m ^^^ a.toNat) = m ^^^ (m ^^^ b.toNat) := by rw [e1]
  rw [← Nat.xor_assoc, ← Nat.xor_assoc, Nat.xor_self, Nat.zero_xor, Nat.zero_xor] at e2
  exact UInt8.toNat_inj.1 e2

/-- A digit. -/
def hexd (d : Nat) : UInt8 := if d < 10 then UInt8.ofNat (48 + d) else UInt8.ofNat (87 + d)
/-- The j lowest digits of a mark. -/
def txG : Nat → Nat → List UInt8
  | 0, _ => []
  | j + 1, m => hexd (m / 16 ^ j % 16) :: txG j m
def tx (m : Nat) : List UInt8 := txG 16 m
theorem txG_length (j m : Nat) : (txG j m).length = j := by
  induction j with
  | zero => rfl
  | succ j ih => simp [txG, ih]
theorem tx_length (m : Nat) : (tx m).length = 16 := txG_length 16 m

/-- What a letter is as a digit. -/
def hv (c : UInt8) : Option Nat := if 48 ≤ c.toNat ∧ c.toNat ≤ 57 then some (c.toNat - 48) else if 97 ≤ c.toNat ∧ c.toNat ≤ 102 then some (c.toNat - 87) else none
def rdF : Nat → List UInt8 → Option Nat
  | acc, [] => some acc
  | acc, c :: l => match hv c with
    | some d => rdF (acc * 16 + d) l
    | none => none
/-- A text as a mark. -/
def rd (l : List UInt8) : Option Nat := if l.length = 16 then rdF 0 l else none

theorem hexd_toNat (d : Nat) (h : d < 16) : (hexd d).toNat = if d < 10 then 48 + d else 87 + d := by
  unfold hexd; split <;> (rw [UInt8.toNat_ofNat', Nat.mod_eq_of_lt (by omega)])
theorem hv_hexd (d : Nat) (h : d < 16) : hv (hexd d) = some d := by
  unfold hv
  rw [hexd_toNat d h]
  by_cases h1 : d < 10
  · rw [if_pos h1, if_pos (by omega)]; simp
  · rw [if_neg h1, if_neg (by omega), if_pos (by omega)]; simp
theorem hv_lt {c : UInt8} {d : Nat} (h : hv c = some d) : d < 16 := by
  unfold hv at h
  split at h
  · injection h with h; omega
  · split at h
    · injection h with h; omega
    · cases h
theorem hexd_hv {c : UInt8} {d : Nat} (h : hv c = some d) : hexd d = c := by
  have hd := hv_lt h
  apply UInt8.toNat_inj.1
  rw [hexd_toNat d hd]
  unfold hv at h
  split at h
  · injection h with h; split <;> omega
  · split at h
    · injection h with h; split <;> omega
    · cases h

theorem mod_pow_succ (m j : Nat) : m % 16 ^ (j + 1) = m / 16 ^ j % 16 * 16 ^ j + m % 16 ^ j := by
  rw [Nat.pow_succ, Nat.mod_mul, Nat.mul_comm (16 ^ j), Nat.add_comm]
theorem rdF_txG (m : Nat) : ∀ j acc, rdF acc (txG j m) = some (acc * 16 ^ j + m % 16 ^ j) := by
  intro j
  induction j with
  | zero => intro acc; simp [txG, rdF, Nat.mod_one]
  | succ j ih =>
    intro acc
    rw [txG, rdF, hv_hexd _ (Nat.mod_lt _ (by omega))]
    show rdF _ _ = _
    rw [ih, mod_pow_succ, Nat.pow_succ, Nat.add_mul, Nat.mul_assoc, Nat.mul_comm 16 (16 ^ j), Nat.add_assoc]
theorem rd_tx (m : Nat) (h : m < 18446744073709551616) : rd (tx m) = some m := by
  unfold rd
  rw [if_pos (tx_length m), tx, rdF_txG, Nat.zero_mul, Nat.zero_add, Nat.mod_eq_of_lt (by simpa using h)]

theorem txG_congr (m n : Nat) : ∀ j, m % 16 ^ j = n % 16 ^ j → txG j m = txG j n := by
  intro j
  induction j with
  | zero => intro _; rfl
  | succ j ih =>
    intro h
    have hp : 0 < 16 ^ j := Nat.pow_pos (by omega)
    have e1 := mod_pow_succ m j
    have e2 := mod_pow_succ n j
    have b1 := Nat.mod_lt m hp
    have b2 := Nat.mod_lt n hp
    rw [h, e2] at e1
    have d1 : n / 16 ^ j % 16 = m / 16 ^ j % 16 := by
      have : (n / 16 ^ j % 16 * 16 ^ j + n % 16 ^ j) / 16 ^ j = (m / 16 ^ j % 16 * 16 ^ j + m % 16 ^ j) / 16 ^ j := by rw [e1]
      rw [Nat.mul_comm, Nat.mul_comm (m / 16 ^ j % 16), Nat.mul_add_div hp, Nat.mul_add_div hp, Nat.div_eq_of_lt b1, Nat.div_eq_of_lt b2] at this
      simpa using this
    rw [txG, txG, ← d1, ih (by rw [d1] at e1; omega)]
theorem rdF_back : ∀ (l : List UInt8) (acc r : Nat), rdF acc l = some r → r / 16 ^ l.length = acc ∧ txG l.length r = l := by
  intro l
  induction l with
  | nil => intro acc r h; injection h with h; subst h; exact ⟨by simp, rfl⟩
  | cons c l ih =>
    intro acc r h
    rw [rdF] at h
    cases hc : hv c with
    | none => rw [hc] at h; cases h
    | some d =>
      rw [hc] at h
      obtain ⟨h1, h2⟩ := ih _ _ h
      have hd := hv_lt hc
      refine ⟨?_, ?_⟩
      · rw [List.length_cons, Nat.pow_succ, ← Nat.div_div_eq_div_mul, h1]; omega
      · rw [List.length_cons, txG, h1, h2, show (acc * 16 + d) % 16 = d from by omega, hexd_hv hc]
theorem rd_back {l : List UInt8} {r : Nat} (h : rd l = some r) : l = tx r ∧ r < 18446744073709551616 := by
  unfold rd at h
  split at h
  · rename_i hl
    obtain ⟨h1, h2⟩ := rdF_back _ _ _ h
    rw [hl] at h1 h2
    refine ⟨h2.symm, ?_⟩
    have := Nat.div_eq_zero_iff.1 h1
    omega
  · cases h
theorem tx_inj {m n : Nat} (hm : m < 18446744073709551616) (hn : n < 18446744073709551616) (h : tx m = tx n) : m = n := by
  have := rd_tx m hm
  rw [h, rd_tx n hn] at this
  exact (Option.some.inj this).symm

theorem hexd_lt {a b : Nat} (ha : a < 16) (hb : b < 16) : (hexd a).toNat < (hexd b).toNat ↔ a < b := by
  rw [hexd_toNat a ha, hexd_toNat b hb]
  split <;> split <;> omega
end Go.Proofs.Ytollfedellhcoaa
