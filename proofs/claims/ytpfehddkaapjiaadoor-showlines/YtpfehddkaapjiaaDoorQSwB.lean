/-
  The walks of the printer's put, clock and standsAlone, and of strconv's FormatBool. Conditions: each theorem's own premises.
-/
import Derived.Test.YtpfehddkaapjiaaDoorQSwA
import Derived.Test.YtpfehddkaapjiaaDoorQSwC
namespace Go.Proofs.YtpfehddkaapjiaaDoor
open Go.RowKit Go.Lib Go.Shelf
attribute [local go_sem] Oper.semAt_some

theorem flat_take (l : List (List UInt8)) (j : Nat) (hj : j < l.length) : (l.take (j + 1)).flatten = (l.take j).flatten ++ l[j] := by
  rw [List.take_succ_eq_append_getElem hj, List.flatten_append]
  simp
theorem flat_le (l : List (List UInt8)) (j : Nat) : ((l.take j).flatten).length ≤ l.flatten.length := by
  have h : l.flatten = (l.take j).flatten ++ (l.drop j).flatten := by rw [← List.flatten_append, List.take_append_drop]
  rw [h, List.length_append]
  omega
/-- What only adds to memory leaves a printer. -/
theorem Wr.ofBelow {b : Nat} {l : List UInt8} {w w' : World} (h : PrA b l w) (hB : Below w.heap.size w w') : Wr b l w w' := by
  have hlt := h.lt
  refine ⟨?_, hB.mono (Nat.le_of_lt hlt), fun k o hk _ _ => (hB.block k (Array.getElem?_eq_some_iff.1 hk).1).trans hk⟩
  have go : ∀ p, BuilderAtF 101 5 b b p (byteCells l) w → BuilderAtF 101 5 b b p (byteCells l) w' := by
    rintro p ⟨h0, v, hb, hown, hne⟩
    exact ⟨h0, v, (hB.block b hlt).trans hb, hown.kept (row := none) ⟨hB.1, hB.2, hB.3, hB.size, fun k hk _ => hB.block k hk⟩ (by cases hv : v.ownBlock <;> simp), hne⟩
  rcases h with h | h
  · exact .inl (go _ h)
  · exact .inr (go _ h)
set_option maxHeartbeats 1000000 in
set_option maxRecDepth 100000 in
theorem put_any (b k : Nat) (acc : List UInt8) (l : List (List UInt8)) (c : Nat) (w : World) (h : PrA b acc w) (hk : Blk w k 9 (l.map fun s => Value.string ⟨s.toArray⟩).toArray) (hl : l.length ≤ 10) (hlen : acc.length + l.flatten.length ≤ 140737488355328) :
    Calls Tryd.prog 106 #[.pointer (some ⟨b, 0, none⟩), .slice (some ⟨k, 0, none⟩) l.length c] w fun e w' => e = .returned (.tuple #[]) ∧ Wr b (acc ++ l.flatten) w w' := by
  have hkb : k ≠ b := h.ne hk (by decide)
  have HP := Lib.hid h
  have HK := Lib.hid hk
  have HLn := Lib.hid hlen
  obtain ⟨len, hle⟩ : ∃ len, len = l.length := ⟨_, rfl⟩
  rw [← hle]
  have HL := Lib.hid hle
  have hl' : len ≤ 10 := by omega
  clear h hk hlen hl hle
  go_enter Tryd.func106, Tryd.ntmps106
  go_wp2_with fail
  go_loopw [8] (fun i wr => ∃ j : Nat, j ≤ len ∧ i = .int .i64 (j : Int) ∧ Wr b (acc ++ (l.take j).flatten) w wr) (fun i _ => len - (RowKit.intOf i).toNat)
  case atStart => exact ⟨0, Nat.zero_le _, rfl, by simpa using HP.out.refl⟩
  case round =>
    obtain ⟨j, hj, rfl, hW⟩ := hrel
    by_cases hp : j < len
    · have hp' : j < l.length := by rw [← HL.out]; exact hp
      have hbk := hW.blk HK.out hkb (by decide)
      have q : wr.cell? ⟨k, j, none⟩ = some (.string ⟨l[j].toArray⟩) := by
        rw [hbk.cell j]
        simp [hp']
      have hT := flat_take l j hp'
      have hfl := flat_le l (j + 1)
      have HC := Lib.hid (writeString_any b (acc ++ (l.take j).flatten) l[j] wr hW.pr (by
        have := HLn.out
        rw [hT] at hfl
        simp only [List.length_append] at hfl ⊢
        omega))
      have HT := Lib.hid hT
      have HW := Lib.hid hW
      generalize l[j] = s at *
      clear hW hbk hT hfl hp'
      go_wp2_with fail
      refine HC.out.mono ?_
      rintro e w2 ⟨rfl, h2⟩
      have HW2 := Lib.hid (HW.out.trans h2)
      clear h2
      go_wp2
      go_roundw
      case rel => exact ⟨j + 1, by omega, by go_num, by rw [HT.out, ← List.append_assoc]; exact HW2.out⟩
      case measure => simp [RowKit.intOf]; omega
    · obtain rfl : j = len := by omega
      have HW : Hid (Wr b (acc ++ l.flatten) w wr) := Lib.hid (by
        have := hW
        rw [HL.out, List.take_length] at this
        exact this)
      clear hW
      go_wp2
      go_end0
      exact ⟨rfl, HW.out⟩
/-- One text, out of a slice built for it. -/
theorem put1 (b k : Nat) (acc s : List UInt8) (w : World) (hk : w.heap.size = k) (h : PrA b acc w) (hlen : acc.length + s.length ≤ 140737488355328) :
    Calls Tryd.prog 106 #[.pointer (some ⟨b, 0, none⟩), .slice (some ⟨k, 0, none⟩) 1 1] (w.alloc (.cells #[.string ⟨s.toArray⟩] 9)) fun e w' => e = .returned (.tuple #[]) ∧ Wr b (acc ++ s) w w' := by
  subst hk
  refine (put_any b w.heap.size acc [s] 1 _ (h.alloc _) (heap_alloc_new w _) (by simp) (by simpa using hlen)).mono ?_
  rintro e w' ⟨rfl, h2⟩
  exact ⟨rfl, by simpa using (Wr.ofAlloc h _).trans h2⟩
theorem put2 (b k : Nat) (acc s t : List UInt8) (w : World) (hk : w.heap.size = k) (h : PrA b acc w) (hlen : acc.length + (s.length + t.length) ≤ 140737488355328) :
    Calls Tryd.prog 106 #[.pointer (some ⟨b, 0, none⟩), .slice (some ⟨k, 0, none⟩) 2 2] (w.alloc (.cells #[.string ⟨s.toArray⟩, .string ⟨t.toArray⟩] 9)) fun e w' => e = .returned (.tuple #[]) ∧ Wr b (acc ++ (s ++ t)) w w' := by
  subst hk
  refine (put_any b w.heap.size acc [s, t] 2 _ (h.alloc _) (heap_alloc_new w _) (by simp) (by simpa using hlen)).mono ?_
  rintro e w' ⟨rfl, h2⟩
  exact ⟨rfl, by simpa using (Wr.ofAlloc h _).trans h2⟩
theorem put3 (b k : Nat) (acc s t u : List UInt8) (w : World) (hk : w.heap.size = k) (h : PrA b acc w) (hlen : acc.length + (s.length + (t.length + u.length)) ≤ 140737488355328) :
    Calls Tryd.prog 106 #[.pointer (some ⟨b, 0, none⟩), .slice (some ⟨k, 0, none⟩) 3 3] (w.alloc (.cells #[.string ⟨s.toArray⟩, .string ⟨t.toArray⟩, .string ⟨u.toArray⟩] 9)) fun e w' => e = .returned (.tuple #[]) ∧ Wr b (acc ++ (s ++ (t ++ u))) w w' := by
  subst hk
  refine (put_any b w.heap.size acc [s, t, u] 3 _ (h.alloc _) (heap_alloc_new w _) (by simp) (by simpa using hlen)).mono ?_
  rintro e w' ⟨rfl, h2⟩
  exact ⟨rfl, by simpa using (Wr.ofAlloc h _).trans h2⟩
set_option maxHeartbeats 400000 in
theorem clock_any (b : Nat) (acc name : List UInt8) (on : Bool) (w : World) (h : PrA b acc w) (hlen : acc.length + (clkT name on).length ≤ 140737488355328) :
    Calls Tryd.prog 110 #[.pointer (some ⟨b, 0, none⟩), .string ⟨name.toArray⟩, .bool on] w fun e w' => e = .returned (.tuple #[]) ∧ Wr b (acc ++ clkT name on) w w' := by
  cases on
  · have HC := Lib.hid (put2 b w.heap.size acc [32, 119, 104, 101, 110, 32, 110, 111, 116, 32] name w rfl h (by simp [clkT] at hlen ⊢; omega))
    clear h hlen
    go_enter Tryd.func110, Tryd.ntmps110
    go_wp2_with fail
    refine HC.out.mono ?_
    rintro e w' ⟨rfl, h2⟩
    have H2 := Lib.hid h2
    clear h2
    go_wp2
    go_end0
    exact ⟨rfl, H2.out⟩
  · have HC := Lib.hid (put2 b w.heap.size acc [32, 119, 104, 101, 110, 32] name w rfl h (by simp [clkT] at hlen ⊢; omega))
    clear h hlen
    go_enter Tryd.func110, Tryd.ntmps110
    go_wp2_with fail
    refine HC.out.mono ?_
    rintro e w' ⟨rfl, h2⟩
    have H2 := Lib.hid h2
    clear h2
    go_wp2
    go_end0
    exact ⟨rfl, H2.out⟩
set_option maxHeartbeats 400000 in
theorem alone_any (op : Int) (w : World) : Calls Tryd.prog 145 #[.int .i64 op] w fun e w' => e = .returned (.bool (alone op)) ∧ w' = w := by
  rcases Decidable.em (op = 1) with rfl | h1
  · go_enter Tryd.func145, Tryd.ntmps145
    go_wp2
    go_ret
    exact ⟨rfl, rfl⟩
  rcases Decidable.em (op = 2) with rfl | h2
  · go_enter Tryd.func145, Tryd.ntmps145
    go_wp2
    go_ret
    exact ⟨rfl, rfl⟩
  rcases Decidable.em (op = 3) with rfl | h3
  · go_enter Tryd.func145, Tryd.ntmps145
    go_wp2
    go_ret
    exact ⟨rfl, rfl⟩
  rcases Decidable.em (op = 25) with rfl | h25
  · go_enter Tryd.func145, Tryd.ntmps145
    go_wp2
    go_ret
    exact ⟨rfl, rfl⟩
  go_enter Tryd.func145, Tryd.ntmps145
  go_wp2
  go_ret
  exact ⟨rfl, rfl⟩
set_option maxHeartbeats 400000 in
theorem formatBool_any (x : Bool) (w : World) : Calls Tryd.prog 113 #[.bool x] w fun e w' => e = .returned (.string ⟨(if x then [116, 114, 117, 101] else [102, 97, 108, 115, 101] : List UInt8).toArray⟩) ∧ w' = w := by
  have h : Calls Tryd.prog 144 #[.bool x] w fun e w' => e = .returned (.string ⟨(if x then [116, 114, 117, 101] else [102, 97, 108, 115, 101] : List UInt8).toArray⟩) ∧ w' = w := by
    cases x <;>
    · go_enter Tryd.func144, Tryd.ntmps144
      go_wp2
      go_ret
      exact ⟨rfl, rfl⟩
  cases x <;>
  · go_enter Tryd.func113, Tryd.ntmps113
    go_wp2_with fail
    refine h.mono ?_
    rintro e w' ⟨rfl, rfl⟩
    go_wp2
    go_ret
    exact ⟨rfl, rfl⟩
end Go.Proofs.YtpfehddkaapjiaaDoor
