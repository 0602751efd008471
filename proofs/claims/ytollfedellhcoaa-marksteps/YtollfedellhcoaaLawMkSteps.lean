/-
  The walk of MarkSteps. Conditions: the theorem's own premises.
-/
import Derived.Test.YtollfedellhcoaaLawMkBack
import Derived.Deep.QuietTactic
import Derived.BigQuiet
namespace Go.Proofs.Ytollfedellhcoaa
open Go.RowKit

/-- One new byte as a text. -/
theorem conv_one (w : World) (c : UInt8) : (convert 30 9 (.slice (some ⟨w.heap.size, 0, none⟩) 1 1)).run Try.prog (w.alloc (.cells #[.int .u8 (c.toNat : Int)] 5)) = .ok (.string ⟨#[c]⟩) (w.alloc (.cells #[.int .u8 (c.toNat : Int)] 5)) :=
  run_convert_bytes_back (P := Try.prog) (w.alloc (.cells #[.int .u8 (c.toNat : Int)] 5)) 30 9 5 ⟨w.heap.size, 0, none⟩ 1 [c] Try.underlying30 Try.underlying5 Try.underlying9 fun j hj => by
    match j, hj with
    | 0, _ => simp [Addr.add]

theorem of_flip {s : ByteArray} {x : Nat} (hs : s.size ≤ maxLen) (hx : mk mk0 s.data.toList = x) (w : World) : Calls Try.prog 10 #[.string s] w fun e w' => e = .returned (.int .u64 (x : Int)) ∧ w' = w :=
  (of_any s w hs).mono fun _ _ ⟨h1, h2⟩ => ⟨by rw [h1, hx], h2.symm⟩
theorem add_flip {m : Nat} {s : ByteArray} {x : Nat} (hm : m < 18446744073709551616) (hs : s.size ≤ maxLen) (hx : mk m s.data.toList = x) (w : World) :
    Calls Try.prog 12 #[.int .u64 (m : Int), .string s] w fun e w' => e = .returned (.int .u64 (x : Int)) ∧ w' = w :=
  (add_any m s w hm hs).mono fun _ _ ⟨h1, h2⟩ => ⟨by rw [h1, hx], h2.symm⟩
theorem extract_lo (s : ByteArray) (k : Nat) : (s.extract 0 k).data.toList = s.data.toList.take k := by simp
theorem extract_hi (s : ByteArray) (k : Nat) : (s.extract k s.size).data.toList = s.data.toList.drop k := by
  simp
  rw [List.take_of_length_le]
  simp

set_option maxRecDepth 100000 in
set_option maxHeartbeats 1000000 in
theorem markSteps_nat (s : ByteArray) (n : Int) (a b : UInt8) (w : World) (hs : s.size ≤ maxLen) :
    Calls Try.prog 5 #[.string s, .int .i64 n, .int .u8 (a.toNat : Int), .int .u8 (b.toNat : Int)] w (RetYes w) := by
  have HF := Lib.hid (mfirst_any w)
  by_cases h1 : 300 < s.size
  · unfold maxLen at hs
    go_enter Try.func5, Try.ntmps5
    go_wp2_with fail
    refine HF.out.mono ?_
    rintro e w1 ⟨rfl, hB⟩
    go_wp2
    go_ret
    exact ⟨rfl, hB⟩
  have hs2 : s.size ≤ 300 := by omega
  have HN := Lib.hid (fun W => number_any n ((s.size : Int) + 1) W (by omega) (by omega))
  obtain ⟨k, hk⟩ : ∃ k : Nat, n % ((s.size : Int) + 1) = (k : Int) := ⟨(n % ((s.size : Int) + 1)).toNat, by have := Int.emod_nonneg n (show ((s.size : Int) + 1) ≠ 0 by omega); omega⟩
  have hkl : k ≤ s.size := by have := Int.emod_lt_of_pos n (show 0 < ((s.size : Int) + 1) by omega); omega
  rw [hk] at HN
  have hca := fun W => conv_one W a
  have hcb := fun W => conv_one W b
  have hsa : (s ++ ByteArray.mk #[a]).size ≤ maxLen := by rw [ByteArray.size_append]; show s.size + 1 ≤ _; unfold maxLen; omega
  have hsb : (s ++ ByteArray.mk #[b]).size ≤ maxLen := by rw [ByteArray.size_append]; show s.size + 1 ≤ _; unfold maxLen; omega
  have ea : mk mk0 (s ++ ByteArray.mk #[a]).data.toList = mstep (mk mk0 s.data.toList) a := by rw [ByteArray.data_append, Array.toList_append]; exact mk_snoc _ _ _
  have eb : mk mk0 (s ++ ByteArray.mk #[b]).data.toList = mstep (mk mk0 s.data.toList) b := by rw [ByteArray.data_append, Array.toList_append]; exact mk_snoc _ _ _
  obtain ⟨X, hX⟩ : ∃ X, X = mk mk0 s.data.toList := ⟨_, rfl⟩
  obtain ⟨x1, hx1⟩ : ∃ x1, x1 = mk mk0 (s.data.toList.take k) := ⟨_, rfl⟩
  have hXl : X < 18446744073709551616 := by rw [hX]; exact mk_lt _ _ mk0_lt
  have hxl : x1 < 18446744073709551616 := by rw [hx1]; exact mk_lt _ _ mk0_lt
  have C1 := Lib.hid (fun W => of_flip (x := x1) (s := s.extract 0 k) (by rw [ByteArray.size_extract]; unfold maxLen at hs ⊢; omega) (by rw [extract_lo, hx1]) W)
  have C2 := Lib.hid (fun W => add_flip (m := x1) (x := X) (s := s.extract k s.size) hxl (by rw [ByteArray.size_extract]; unfold maxLen at hs ⊢; omega) (by rw [extract_hi, hx1, ← mk_append, List.take_append_drop, hX]) W)
  have C3 := Lib.hid (fun W => of_flip (x := X) (s := s) hs hX.symm W)
  have CA := Lib.hid (fun W => of_flip (x := mstep X a) hsa (by rw [ea, hX]) W)
  have CB := Lib.hid (fun W => of_flip (x := mstep X b) hsb (by rw [eb, hX]) W)
  have hab : ((mstep X a : Int) == (mstep X b : Int)) = ((a.toNat : Int) == (b.toNat : Int)) := by
    by_cases e : a = b
    · subst e; simp
    · rw [beq_eq_false_iff_ne.2 (fun h => e (mstep_inj hXl (by omega))), beq_eq_false_iff_ne.2 (fun h => e (UInt8.toNat_inj.1 (by omega)))]
  have h300 : decide (300 < (s.size : Int)) = false := decide_eq_false (by omega)
  have hk0 : (0 : Int) ≤ (k : Int) := by omega
  have hk1 : (k : Int) ≤ (s.size : Int) := by omega
  generalize mstep X a = A at CA hab
  generalize mstep X b = B at CB hab
  clear hk hs h1 hsa hsb ea eb hX hx1 hXl hxl
  go_enter Try.func5, Try.ntmps5
  go_wp2_with fail
  refine HF.out.mono ?_
  rintro e w1 ⟨rfl, hB⟩
  go_wp2_with fail
  refine (HN.out _).mono ?_
  rintro e w' ⟨rfl, rfl⟩
  have hB2 := hB.alloc hB.size (.cells #[.int .u8 (a.toNat : Int)] 5)
  go_wp2_with fail
  refine (CA.out _).mono ?_
  rintro e w' ⟨rfl, rfl⟩
  generalize w1.alloc (.cells #[.int .u8 (a.toNat : Int)] 5) = w2 at hB2 ⊢
  have hB3 := hB2.alloc hB2.size (.cells #[.int .u8 (b.toNat : Int)] 5)
  go_wp2_with fail
  refine (CB.out _).mono ?_
  rintro e w' ⟨rfl, rfl⟩
  generalize w2.alloc (.cells #[.int .u8 (b.toNat : Int)] 5) = w3 at hB3 ⊢
  go_wp2_with fail
  go_quiet ((first
    | (go_at_call 10; exact Calls.quiet_of_same (C1.out _))
    | (go_at_call 10; exact Calls.quiet_of_same (C3.out _))
    | (go_at_call 12; exact Calls.quiet_of_same (C2.out _))))
  go_wp2
  go_ret
  exact ⟨rfl, below_drewN hB3 _⟩
theorem markSteps_walk (s : ByteArray) (n a b : Int) (w : World) (hs : s.size ≤ maxLen) (_ : (Lit.int .i64 n).wf = true) (ha : (Lit.int .u8 a).wf = true) (hb : (Lit.int .u8 b).wf = true) :
    Calls Try.prog 5 #[.string s, .int .i64 n, .int .u8 a, .int .u8 b] w (RetYes w) := by
  obtain ⟨u, rfl⟩ := byte_of_u8 ha
  obtain ⟨v, rfl⟩ := byte_of_u8 hb
  exact markSteps_nat s n u v w hs
end Go.Proofs.Ytollfedellhcoaa
