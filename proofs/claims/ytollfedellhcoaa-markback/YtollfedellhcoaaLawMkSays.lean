/-
  The walk of MarkSays. Conditions: the theorem's own premises.
-/
import Derived.Test.YtollfedellhcoaaMkFirst
import Derived.OpenShut
namespace Go.Proofs.Ytollfedellhcoaa
open Go.RowKit

theorem below_step {B : Nat} {a b c : World} (h : Below B a b) (hB : B ≤ b.heap.size) (h2 : Below b.heap.size b c) : Below B a c := h.trans (h2.mono hB)

set_option maxRecDepth 100000 in
set_option maxHeartbeats 1000000 in
theorem markSays_nat (m : Nat) (s t : ByteArray) (w : World) (hm : m < 18446744073709551616) (hs : s.size ≤ maxLen) (ht : t.size ≤ maxLen) :
    Calls Try.prog 3 #[.int .u64 (m : Int), .string s, .string t] w (RetYes w) := by
  have HF := Lib.hid (mfirst_any w)
  by_cases h1 : 500 < s.size
  · unfold maxLen at hs ht
    go_enter Try.func3, Try.ntmps3
    go_wp2_with fail
    refine HF.out.mono ?_
    rintro e w1 ⟨rfl, hB⟩
    go_wp2
    go_ret
    exact ⟨rfl, hB⟩
  by_cases h2 : 40 < t.size
  · unfold maxLen at hs ht
    go_enter Try.func3, Try.ntmps3
    go_wp2_with fail
    refine HF.out.mono ?_
    rintro e w1 ⟨rfl, hB⟩
    go_wp2
    go_ret
    exact ⟨rfl, hB⟩
  have HO := Lib.hid (fun W => of_any s W hs)
  have HA := Lib.hid (fun W => add_any m s W hm hs)
  have HM := Lib.hid (fun W => refMark_any m s W hm hs)
  have HN := Lib.hid (fun W => refMark_any mk0 s W mk0_lt hs)
  have HT := Lib.hid (fun W => text_any m W hm)
  have HU := Lib.hid (fun W => markText_any m W hm)
  have HR := Lib.hid (fun W => read_any t W)
  have HS := Lib.hid (fun W => readMark_any t W)
  have hs2 : s.size ≤ 500 := by omega
  have ht2 : t.size ≤ 40 := by omega
  clear hm hs ht
  generalize rd t.data.toList = o at HR HS
  generalize mk mk0 s.data.toList = x at HO HN
  generalize mk m s.data.toList = y at HA HM
  generalize tx m = l at HT HU
  go_enter Try.func3, Try.ntmps3
  go_wp2_with fail
  refine HF.out.mono ?_
  rintro e w1 ⟨rfl, hB⟩
  go_wp2_with fail
  refine (HR.out _).mono ?_
  rintro e w2 ⟨rfl, hB2⟩
  have hB2 := below_step hB hB.size hB2
  go_wp2_with fail
  refine (HS.out _).mono ?_
  rintro e w3 ⟨rfl, hB3⟩
  have hB3 := below_step hB2 hB2.size hB3
  go_wp2_with fail
  refine (HO.out _).mono ?_
  rintro e w' ⟨rfl, rfl⟩
  go_wp2_with fail
  refine (HN.out _).mono ?_
  rintro e w' ⟨rfl, rfl⟩
  go_wp2_with fail
  refine (HA.out _).mono ?_
  rintro e w' ⟨rfl, rfl⟩
  go_wp2_with fail
  refine (HM.out _).mono ?_
  rintro e w' ⟨rfl, rfl⟩
  go_wp2_with fail
  refine (HT.out _).mono ?_
  rintro e w4 ⟨rfl, hB4⟩
  have hB4 := below_step hB3 hB3.size hB4
  go_wp2_with fail
  refine (HU.out _).mono ?_
  rintro e w5 ⟨rfl, hB5⟩
  have hB5 := below_step hB4 hB4.size hB5
  go_wp2
  go_ret
  exact ⟨rfl, hB5⟩

/-- An integer of the kind uint64 is a plain number. -/
theorem nat_of_u64 {a : Int} (h : (Lit.int .u64 a).wf = true) : ∃ m : Nat, a = (m : Int) ∧ m < 18446744073709551616 := by
  have h2 := bounds_u64 h
  exact ⟨a.toNat, by omega, by omega⟩
theorem markSays_walk (a : Int) (s t : ByteArray) (w : World) (ha : (Lit.int .u64 a).wf = true) (hs : s.size ≤ maxLen) (ht : t.size ≤ maxLen) :
    Calls Try.prog 3 #[.int .u64 a, .string s, .string t] w (RetYes w) := by
  obtain ⟨m, rfl, hm⟩ := nat_of_u64 ha
  exact markSays_nat m s t w hm hs ht
end Go.Proofs.Ytollfedellhcoaa
