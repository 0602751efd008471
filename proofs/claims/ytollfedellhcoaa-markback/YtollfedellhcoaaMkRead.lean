/-
  The walks of mark's digit and Read, and of the statements' own ReadMark. Conditions: each theorem's own premises.
-/
import Derived.Test.YtollfedellhcoaaMkText
import Derived.Lib.OthersKept
import Derived.WalkSmall
namespace Go.Proofs.Ytollfedellhcoaa
open Go.RowKit

def orZero : Option Nat → Nat | some m => m | none => 0
/-- It answers a text's mark, or that there is none; nothing old is turned. -/
def RetMark (w : World) (o : Option Nat) (e : Ending) (w' : World) : Prop := e = .returned (.tuple #[.int .u64 (orZero o : Int), .bool o.isSome]) ∧ Below w.heap.size w w'

/-- A rune as a digit. -/
def hvN (c : Nat) : Option Nat := if 48 ≤ c ∧ c ≤ 57 then some (c - 48) else if 97 ≤ c ∧ c ≤ 102 then some (c - 87) else none
theorem hvN_hv (c : UInt8) : hvN c.toNat = hv c := rfl
theorem hvN_lt {c d : Nat} (h : hvN c = some d) : d < 16 := by
  unfold hvN at h
  split at h
  · injection h with h; omega
  · split at h
    · injection h with h; omega
    · cases h

set_option maxHeartbeats 400000 in
theorem digit_yes (c d : Nat) (w : World) (hc : c ≤ 2147483647) (h : hvN c = some d) :
    Calls Try.prog 16 #[.int .i32 (c : Int)] w fun e w' => e = .returned (.tuple #[.int .u64 (d : Int), .bool true]) ∧ w = w' := by
  unfold hvN at h
  by_cases h1 : 48 ≤ c ∧ c ≤ 57
  · rw [if_pos h1] at h
    obtain ⟨h2, h3⟩ := h1
    injection h with h
    have e : IntKind.u64.wrap ((c : Int) - 48) = (d : Int) := by rw [IntKind.wrap_u64]; omega
    clear h
    go_enter Try.func16, Try.ntmps16
    go_wp2
    go_ret2
    exact ⟨rfl, rfl⟩
  · rw [if_neg h1] at h
    by_cases h4 : 97 ≤ c ∧ c ≤ 102
    · rw [if_pos h4] at h
      obtain ⟨h2, h3⟩ := h4
      injection h with h
      have h5 : 57 < c := by omega
      have e : IntKind.u64.wrap ((c : Int) - 97) = ((c - 97 : Nat) : Int) := by rw [IntKind.wrap_u64]; omega
      obtain ⟨x, hx⟩ : ∃ x, x = c - 97 := ⟨_, rfl⟩
      rw [← hx] at e
      have hx2 : x < 6 := by omega
      have H := Lib.hid (show x + 10 = d by omega)
      clear h h1 hx
      go_enter Try.func16, Try.ntmps16
      go_wp2
      go_ret2
      exact ⟨by rw [← H.out]; rfl, rfl⟩
    · rw [if_neg h4] at h; cases h

set_option maxHeartbeats 400000 in
theorem digit_no (c : Nat) (w : World) (hc : c ≤ 2147483647) (h : hvN c = none) :
    Calls Try.prog 16 #[.int .i32 (c : Int)] w fun e w' => e = .returned (.tuple #[.int .u64 0, .bool false]) ∧ w = w' := by
  unfold hvN at h
  by_cases h1 : 48 ≤ c ∧ c ≤ 57
  · rw [if_pos h1] at h; cases h
  · rw [if_neg h1] at h
    by_cases h4 : 97 ≤ c ∧ c ≤ 102
    · rw [if_pos h4] at h; cases h
    · clear h
      have h5 : c < 48 ∨ 57 < c ∧ c < 97 ∨ 102 < c := by omega
      clear h1 h4
      rcases h5 with h5 | ⟨h5, h6⟩ | h5
      all_goals
        go_enter Try.func16, Try.ntmps16
        go_wp2
        go_ret2
        exact ⟨rfl, rfl⟩

theorem hvN_high {c : Nat} (h : 128 ≤ c) : hvN c = none := by
  unfold hvN
  rw [if_neg (by omega), if_neg (by omega)]
theorem hv_high {c : UInt8} (h : 128 ≤ c.toNat) : hv c = none := hvN_high h
theorem drop_cons (l : List UInt8) (k : Nat) (h : k < l.length) : l.drop k = l[k] :: l.drop (k + 1) := List.drop_eq_getElem_cons h
theorem rdF_yes {acc d : Nat} {l : List UInt8} {k : Nat} (h : k < l.length) (hd : hv l[k] = some d) : rdF acc (l.drop k) = rdF (acc * 16 + d) (l.drop (k + 1)) := by
  rw [drop_cons l k h, rdF, hd]
theorem rdF_no {acc : Nat} {l : List UInt8} {k : Nat} (h : k < l.length) (hd : hv l[k] = none) : rdF acc (l.drop k) = none := by
  rw [drop_cons l k h, rdF, hd]
theorem acc_bound {acc d k : Nat} (h : acc < 16 ^ k) (hd : d < 16) : acc * 16 + d < 16 ^ (k + 1) := by
  rw [Nat.pow_succ]; omega
theorem acc_small {acc k : Nat} (h : acc < 16 ^ k) (hk : k < 16) : acc < 1152921504606846976 := by
  have : 16 ^ k ≤ 16 ^ 15 := Nat.pow_le_pow_right (by omega) (by omega)
  have e : (16 : Nat) ^ 15 = 1152921504606846976 := by decide
  omega
theorem or_digit (acc d : Nat) (ha : acc < 1152921504606846976) (hd : d < 16) : bits .or .u64 ((acc : Int) * 16) (d : Int) = ((acc * 16 + d : Nat) : Int) := by
  rw [show (acc : Int) * 16 = ((acc * 16 : Nat) : Int) from by omega, u64_or_nat _ _ (by omega) (by omega), nat_join 4 _ _ (by omega) (by omega)]

/-- Where Read's loop stands. -/
def ReadRel (w : World) (s : ByteArray) (x : Value) (wr : World) : Prop :=
  ∃ k acc : Nat, k ≤ 16 ∧ x = .int .u64 (acc : Int) ∧ wr.heap[w.heap.size]? = some (.stringIter s k) ∧ Below w.heap.size w wr ∧ acc < 16 ^ k ∧ rdF 0 s.data.toList = rdF acc (s.data.toList.drop k)

theorem rd_size {s : ByteArray} (h : s.size = 16) : rd s.data.toList = rdF 0 s.data.toList := by
  unfold rd; rw [if_pos (by simpa using h)]
theorem rd_other {s : ByteArray} (h : s.size ≠ 16) : rd s.data.toList = none := by
  unfold rd; rw [if_neg (by simpa using h)]

set_option maxRecDepth 100000 in
set_option maxHeartbeats 400000 in
theorem read_any (s : ByteArray) (w : World) : Calls Try.prog 8 #[.string s] w (RetMark w (rd s.data.toList)) := by
  by_cases h16 : s.size = 16
  · have H16 := Lib.hid h16
    have h1 : ((s.size : Int) != 16) = false := by simp [h16]
    clear h16
    go_enter Try.func8, Try.ntmps8
    go_wp2
    go_loopw [4] (fun x wr => ReadRel w s x wr) (fun _ wr => 16 - wr.iterPos w.heap.size)
    case atStart => exact ⟨0, 0, by omega, rfl, World.iter_heap w s 0, (Below.refl _ _).alloc (Nat.le_refl _) _, by omega, rfl⟩
    case round =>
      obtain ⟨k, acc, hk, rfl, hit, hB, ha, he⟩ := hrel
      have hpos0 := iterPos_of hit
      have hsz := H16.out
      have HE := Lib.hid he
      have HP := Lib.hid hpos0
      clear hpos0 he
      by_cases hp : k < s.size
      · have hdl := decode_le s k
        have hwd : s[k].toNat < 128 → Utf8.decode s k = (s[k].toNat, 1) := fun h => decode_ascii s k hp h
        have hhi : 128 ≤ s[k].toNat → 128 ≤ (Utf8.decode s k).1 := fun h => (decode_high s k hp h).1
        have hkl : k < s.data.toList.length := by simpa using hp
        have hsk : s.data.toList[k] = s[k] := rfl
        have hnx : ∀ ty, (Instr.next (.pointer (some ⟨w.heap.size, 0, none⟩)) true ty).run Try.prog wr = _ := fun ty => Lib.run_next_any_at wr w.heap.size s k ty hit hp
        have hB2 := Lib.below_iterAt hB (k := w.heap.size) (Nat.le_refl _) s (k + (Utf8.decode s k).2)
        have hit2 := Lib.iterAt_heap wr w.heap.size s k (k + (Utf8.decode s k).2) hit
        obtain ⟨W1, hW1⟩ : ∃ W1, W1 = wr.iterAt w.heap.size s (k + (Utf8.decode s k).2) := ⟨_, rfl⟩
        rw [← hW1] at hnx hB2 hit2
        obtain ⟨r, hr⟩ : ∃ r, r = (Utf8.decode s k).1 := ⟨_, rfl⟩
        rw [← hr] at hnx hdl hhi
        have has := acc_small ha (by omega)
        cases hd : hvN r with
        | none =>
          have hno : hv s.data.toList[k] = none := by
            rw [hsk]
            rcases Nat.lt_or_ge s[k].toNat 128 with h | h
            · rw [← hvN_hv, ← hd, hr, hwd h]
            · exact hv_high h
          have R : rd s.data.toList = none := by rw [rd_size hsz, HE.out, rdF_no hkl hno]
          have HR := Lib.hid R
          have HD := Lib.hid hd
          clear hW1 hr hd hno R hwd hhi hit2 hit hB hsk hkl hsz
          go_wp2_with fail
          refine (digit_no r _ hdl HD.out).mono ?_
          rintro e w' ⟨rfl, rfl⟩
          go_wp2
          go_ret2
          exact ⟨by rw [HR.out]; rfl, hB2⟩
        | some d =>
          have hd16 := hvN_lt hd
          have hlow : s[k].toNat < 128 := by
            rcases Nat.lt_or_ge s[k].toNat 128 with h | h
            · exact h
            · have := hvN_high (hhi h)
              rw [hd] at this
              cases this
          rw [hwd hlow] at hr hit2
          have hyes : hv s.data.toList[k] = some d := by rw [hsk, ← hvN_hv, ← hd, hr]
          have R : rdF 0 s.data.toList = rdF (acc * 16 + d) (s.data.toList.drop (k + 1)) := by rw [HE.out, rdF_yes hkl hyes]
          have R2 : ReadRel w s (.int .u64 ((acc * 16 + d : Nat) : Int)) W1 := ⟨k + 1, acc * 16 + d, by omega, rfl, hit2, hB2, acc_bound ha hd16, R⟩
          have HR := Lib.hid R2
          have HD := Lib.hid hd
          have HI := Lib.hid hit2
          have hor := or_digit acc d has hd16
          clear hW1 hr hd hyes R R2 hwd hhi hit2 hit hB hsk hkl hsz hB2 hlow ha
          go_wp2_with fail
          refine (digit_yes r d _ hdl HD.out).mono ?_
          rintro e w' ⟨rfl, rfl⟩
          go_wp2
          go_roundw
          case rel => exact HR.out
          case measure =>
            have := H16.out
            rw [iterPos_of HI.out, HP.out]
            omega
      · have hnx : ∀ ty, (Instr.next (.pointer (some ⟨w.heap.size, 0, none⟩)) true ty).run Try.prog wr = _ := fun ty => Lib.run_next_end_at wr w.heap.size s k ty hit hp
        have R : rd s.data.toList = some acc := by
          rw [rd_size hsz, HE.out, List.drop_eq_nil_of_le (by simp; omega), rdF]
        have HR := Lib.hid R
        clear R hsz
        go_wp2
        go_ret2
        exact ⟨by rw [HR.out]; rfl, hB⟩
  · have h1 : ((s.size : Int) != 16) = true := by simp; omega
    have HR := Lib.hid (rd_other h16)
    clear h16
    go_enter Try.func8, Try.ntmps8
    go_wp2
    go_ret2
    exact ⟨by rw [HR.out]; rfl, Below.refl _ _⟩

/-- Where ReadMark's loop stands. -/
def RMarkRel (s : ByteArray) (x i : Value) : Prop :=
  ∃ k acc : Nat, k ≤ 16 ∧ x = .int .u64 (acc : Int) ∧ i = .int .i64 (k : Int) ∧ acc < 16 ^ k ∧ rdF 0 s.data.toList = rdF acc (s.data.toList.drop k)
theorem hv_ways (c : UInt8) : (48 ≤ c.toNat ∧ c.toNat ≤ 57 ∧ hv c = some (c.toNat - 48)) ∨ (57 < c.toNat ∧ 97 ≤ c.toNat ∧ c.toNat ≤ 102 ∧ hv c = some (c.toNat - 87)) ∨ ((c.toNat < 48 ∨ 57 < c.toNat ∧ c.toNat < 97 ∨ 102 < c.toNat) ∧ hv c = none) := by
  unfold hv
  by_cases h1 : 48 ≤ c.toNat ∧ c.toNat ≤ 57
  · exact .inl ⟨h1.1, h1.2, if_pos h1⟩
  · rw [if_neg h1]
    by_cases h2 : 97 ≤ c.toNat ∧ c.toNat ≤ 102
    · exact .inr (.inl ⟨by omega, h2.1, h2.2, if_pos h2⟩)
    · exact .inr (.inr ⟨by omega, if_neg h2⟩)

set_option maxRecDepth 100000 in
set_option maxHeartbeats 400000 in
theorem readMark_any (s : ByteArray) (w : World) : Calls Try.prog 9 #[.string s] w (RetMark w (rd s.data.toList)) := by
  by_cases h16 : s.size = 16
  · have H16 := Lib.hid h16
    have h1 : ((s.size : Int) != 16) = false := by simp [h16]
    clear h16
    go_enter Try.func9, Try.ntmps9
    go_wp2
    go_loop [4, 5] (fun x i => RMarkRel s x i) (fun _ i => 16 - (intOf i).toNat)
    case atStart => exact ⟨0, 0, by omega, rfl, rfl, by omega, rfl⟩
    case round =>
      obtain ⟨k, acc, hk, rfl, rfl, ha, he⟩ := hrel
      have hsz := H16.out
      have HE := Lib.hid he
      clear he
      by_cases hp : k < 16
      · have hp2 : k < s.size := by omega
        have has := acc_small ha hp
        obtain ⟨c, hc⟩ : ∃ c, s[k] = c := ⟨_, rfl⟩
        have hkl : k < s.data.toList.length := by simpa using hp2
        have hsk : s.data.toList[k] = c := hc
        rcases hv_ways c with ⟨h2, h3, hd⟩ | ⟨h2, h3, h4, hd⟩ | ⟨h2, hd⟩
        · have hd16 := hv_lt hd
          have R : rdF 0 s.data.toList = rdF (acc * 16 + (c.toNat - 48)) (s.data.toList.drop (k + 1)) := by rw [HE.out, rdF_yes hkl (by rw [hsk]; exact hd)]
          have R2 : RMarkRel s (.int .u64 ((acc * 16 + (c.toNat - 48) : Nat) : Int)) (.int .i64 ((k : Int) + 1)) := ⟨k + 1, _, by omega, rfl, by go_num, acc_bound ha hd16, R⟩
          have hor := or_digit acc _ has hd16
          have e0 : ((c.toNat - 48 : Nat) : Int) = (c.toNat : Int) - 48 := by omega
          have e1 : IntKind.u64.wrap ((c.toNat : Int) - 48) = (c.toNat : Int) - 48 := by rw [IntKind.wrap_u64]; omega
          rw [← hor, e0] at R2
          have HR := Lib.hid R2
          clear hd R R2 hsk hkl hsz ha HE hor e0
          go_wp2
          go_round
          case rel => exact HR.out
          case measure => simp [intOf]; omega
        · have hd16 := hv_lt hd
          have R : rdF 0 s.data.toList = rdF (acc * 16 + (c.toNat - 87)) (s.data.toList.drop (k + 1)) := by rw [HE.out, rdF_yes hkl (by rw [hsk]; exact hd)]
          have R2 : RMarkRel s (.int .u64 ((acc * 16 + (c.toNat - 87) : Nat) : Int)) (.int .i64 ((k : Int) + 1)) := ⟨k + 1, _, by omega, rfl, by go_num, acc_bound ha hd16, R⟩
          have hor := or_digit acc _ has hd16
          have e0 : ((c.toNat - 87 : Nat) : Int) = (c.toNat : Int) - 97 + 10 := by omega
          have e1 : IntKind.u64.wrap ((c.toNat : Int) - 97 + 10) = (c.toNat : Int) - 97 + 10 := by rw [IntKind.wrap_u64]; omega
          rw [← hor, e0] at R2
          have HR := Lib.hid R2
          clear hd R R2 hsk hkl hsz ha HE hor e0
          go_wp2
          go_round
          case rel => exact HR.out
          case measure => simp [intOf]; omega
        · have R : rd s.data.toList = none := by rw [rd_size hsz, HE.out, rdF_no hkl (by rw [hsk]; exact hd)]
          have HR := Lib.hid R
          clear hd R hsk hkl hsz ha HE
          rcases h2 with h2 | ⟨h2, h3⟩ | h2
          all_goals
            go_wp2
            go_ret2
            exact ⟨by rw [HR.out]; rfl, Below.refl _ _⟩
      · obtain rfl : k = 16 := by omega
        have R : rd s.data.toList = some acc := by
          rw [rd_size hsz, HE.out, List.drop_eq_nil_of_le (by simp; omega), rdF]
        have HR := Lib.hid R
        clear R hsz HE
        go_wp2
        go_ret2
        exact ⟨by rw [HR.out]; rfl, Below.refl _ _⟩
  · have h1 : ((s.size : Int) != 16) = true := by simp; omega
    have HR := Lib.hid (rd_other h16)
    clear h16
    go_enter Try.func9, Try.ntmps9
    go_wp2
    go_ret2
    exact ⟨by rw [HR.out]; rfl, Below.refl _ _⟩
end Go.Proofs.Ytollfedellhcoaa
