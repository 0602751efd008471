/-
  The walk of pendulumlaw8's digits. Conditions: each theorem's own premises.
-/
import Derived.Test.YtpfehddkaapjiaaDoorQBlk
import Derived.Test.YtpfehddkaapjiaaDoorQNumb
import Derived.Lib.ItoaLen
import Derived.Deep.RegionWith
namespace Go.Proofs.YtpfehddkaapjiaaDoor
open Go.RowKit Go.Lib

theorem of_nat8 {u : Nat} (h : u < 256) : (UInt8.ofNat u).toNat = u := by simp [Nat.mod_eq_of_lt h]
theorem conv_one8 (u : Nat) (hu : u < 256) (W : World) (g : Nat) (hb : Blk W g 5 #[.int .u8 (u : Int)]) : (convert 97 9 (.slice (some ⟨g, 0, none⟩) 1 1)).run Tryd.prog W = .ok (.string ⟨#[UInt8.ofNat u]⟩) W := by
  have := run_convert_bytes_back (P := Tryd.prog) W 97 9 5 ⟨g, 0, none⟩ 1 [UInt8.ofNat u] Tryd.underlying97 Tryd.underlying5 Tryd.underlying9 (fun j hj => by
    have : j = 0 := by simpa using hj
    subst this
    have hc := hb.cell 0
    simpa [Addr.add, of_nat8 hu] using hc)
  exact this
theorem conv_dig (u : Nat) (hu : u < 10) (W : World) (g : Nat) (hb : Blk W g 5 #[.int .u8 (48 + (u : Int))]) : (convert 97 9 (.slice (some ⟨g, 0, none⟩) 1 1)).run Tryd.prog W = .ok (.string ⟨#[UInt8.ofNat (48 + u)]⟩) W :=
  conv_one8 (48 + u) (by omega) W g (by rw [Int.natCast_add]; exact hb)
theorem dec_small {n : Nat} (h : n < 10) : (Lib.decDigits n).toArray = #[UInt8.ofNat (48 + n)] := by rw [Lib.decDigits_one h]
theorem dec_more {n : Nat} (h : ¬ n < 10) : (⟨(Lib.decDigits (n / 10)).toArray⟩ : ByteArray) ++ ⟨#[UInt8.ofNat (48 + n % 10)]⟩ = ⟨(Lib.decDigits n).toArray⟩ := by
  rw [show Lib.decDigits n = Lib.decDigits (n / 10) ++ [UInt8.ofNat (48 + n % 10)] by rw [Lib.decDigits, dif_neg h]]
  apply ByteArray.ext
  rw [ByteArray.data_append]
  simp
theorem dec_size {n : Nat} (h : n ≤ 9223372036854775807) : (Lib.decDigits n).length ≤ 21 := by
  have := Lib.itoa_length_le (n : Int) (by omega) (by omega)
  rw [Lib.itoa_nonneg] at this
  exact this
set_option maxRecDepth 100000 in
set_option maxHeartbeats 2000000 in
theorem digits8_any : ∀ (m n : Nat) (w : World), n ≤ m → n ≤ 9223372036854775807 → Calls Tryd.prog 34 #[.int .i64 (n : Int)] w fun e w' => e = .returned (.string ⟨(Lib.decDigits n).toArray⟩) ∧ Below w.heap.size w w' := by
  have small : ∀ (n : Nat) (w : World), n < 10 → Calls Tryd.prog 34 #[.int .i64 (n : Int)] w fun e w' => e = .returned (.string ⟨(Lib.decDigits n).toArray⟩) ∧ Below w.heap.size w w' := fun n w h => by
    have hcv := conv_dig n h (w.alloc (.cells #[.int .u8 (48 + (n : Int))] 5)) w.heap.size (heap_alloc_new w _)
    rw [dec_small h]
    obtain ⟨c, hc⟩ : ∃ c : UInt8, c = UInt8.ofNat (48 + n) := ⟨_, rfl⟩
    rw [← hc] at hcv ⊢
    clear hc
    go_enter Tryd.func34, Tryd.ntmps34
    go_wp2
    go_ret
    exact ⟨rfl, (Below.refl _ _).alloc (Nat.le_refl _) _⟩
  intro m
  induction m with
  | zero => exact fun n w hn _ => small n w (by omega)
  | succ m ih =>
    intro n w hn hn2
    by_cases h : n < 10
    · exact small n w h
    · have ih2 := Lib.hid (fun W => ih (n / 10) W (by omega) (by omega))
      have hq : (n : Int).tdiv 10 = ((n / 10 : Nat) : Int) := by rw [Int.tdiv_eq_ediv_of_nonneg (by omega)]; omega
      have hr : (n : Int).tmod 10 = ((n % 10 : Nat) : Int) := by rw [Int.tmod_eq_emod_of_nonneg (by omega)]; omega
      have hrl : n % 10 < 10 := by omega
      have hql : n / 10 ≤ 922337203685477580 := by omega
      have HM := Lib.hid (dec_more h)
      have hl1 := dec_size (n := n / 10) (by omega)
      obtain ⟨r, hrr⟩ : ∃ r, r = n % 10 := ⟨_, rfl⟩
      obtain ⟨q, hqq⟩ : ∃ q, q = n / 10 := ⟨_, rfl⟩
      rw [← hqq] at ih2 hq HM hl1 hql
      rw [← hrr] at hr HM hrl
      obtain ⟨T, hT⟩ : ∃ T : ByteArray, T = ⟨(Lib.decDigits q).toArray⟩ := ⟨_, rfl⟩
      rw [← hT] at ih2 HM
      have hTz : T.size ≤ 21 := by rw [hT]; exact hl1
      have h10 : (10 : Int) ≤ (n : Int) := by omega
      have hnI : (n : Int) ≤ 9223372036854775807 := by omega
      have hqI : (q : Int) ≤ 922337203685477580 := by omega
      obtain ⟨c, hc⟩ : ∃ c : UInt8, c = UInt8.ofNat (48 + r) := ⟨_, rfl⟩
      have hw1 : IntKind.i64.wrap (q : Int) = (q : Int) := by rw [IntKind.wrap_i64]; omega
      have hw2 : IntKind.i64.wrap (r : Int) = (r : Int) := by rw [IntKind.wrap_i64]; omega
      have hw3 : IntKind.i64.wrap (48 + (r : Int)) = 48 + (r : Int) := by rw [IntKind.wrap_i64]; omega
      have hw4 : IntKind.u8.wrap (48 + (r : Int)) = 48 + (r : Int) := by rw [IntKind.wrap_u8]; omega
      have hCv : ∀ (W : World) (g : Nat), Blk W g 5 #[.int .u8 (48 + (r : Int))] → (convert 97 9 (.slice (some ⟨g, 0, none⟩) 1 1)).run Tryd.prog W = .ok (.string ⟨#[c]⟩) W := fun W g hb => by rw [hc]; exact conv_dig r hrl W g hb
      rw [← hc] at HM
      have HCv := Lib.hid hCv
      have hcd := hCv (w.alloc (.cells #[.int .u8 (48 + (r : Int))] 5)).drew w.heap.size (heap_alloc_new w _)
      clear hrr hqq h ih hn hl1 hT hn2 hql hc hCv
      go_enter Tryd.func34, Tryd.ntmps34
      go_wp2
      go_region_with
        (go_at_call 34
         refine (ih2.out _).mono ?_
         rintro e w1 ⟨rfl, hB1⟩
         have q3 := HCv.out (w1.alloc (.cells #[.int .u8 (48 + (r : Int))] 5)) w1.heap.size (heap_alloc_new w1 _)
         first
           | (have HB := Lib.hid (((Below.refl _ w).drew).trans hB1))
           | (have HB := Lib.hid ((((Below.refl _ w).alloc (Nat.le_refl _) _).drew).trans (hB1.mono (by simp)))
              have q2 := HCv.out w1 w.heap.size (Blk.below (w := (w.alloc (.cells #[.int .u8 (48 + (r : Int))] 5)).drew) (heap_alloc_new w _) hB1 (by simp))))
      all_goals
        go_wp2
        go_ret
        exact ⟨by rw [← HM.out]; rfl, by first | exact HB.out | exact HB.out.alloc HB.out.size _⟩
end Go.Proofs.YtpfehddkaapjiaaDoor
