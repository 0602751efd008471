/-
  The walk of MarkBack. Conditions: the theorem's own premises.
-/
import Derived.Test.YtollfedellhcoaaLawMkSays
import Derived.Lib.ConvBytes
namespace Go.Proofs.Ytollfedellhcoaa
open Go.RowKit

/-- It answers this text, and nothing old is turned. -/
def RetStr (w : World) (s : ByteArray) (e : Ending) (w' : World) : Prop := e = .returned (.string s) ∧ Below w.heap.size w w'

/-- '[]byte(s)', its cells, a store into it, and 'string(b)'. -/
theorem conv_bytes (w : World) (s : ByteArray) (h16 : s.size = 16) :
    ∃ (W : World) (cap : Nat), (convert 9 30 (.string s)).run Try.prog w = .ok (.slice (some ⟨w.heap.size, 0, none⟩) 16 cap) W ∧ Below w.heap.size w W ∧ w.heap.size < W.heap.size ∧
      (∀ k, k < 16 → W.frozen? ⟨w.heap.size, k, none⟩ = false) ∧ (∀ k, k < 16 → W.cell? ⟨w.heap.size, k, none⟩ = some (.int .u8 ((s.data.toList.getD k 0).toNat : Int))) := by
  refine ⟨Lib.bytesWorld w 5 s, grownCap w s.size 0 5, ?_, ⟨rfl, rfl, rfl, by rw [Lib.bytesWorld_size]; omega, fun i hi => Lib.bytesWorld_at_old w _ s i hi⟩, by rw [Lib.bytesWorld_size]; omega, ?_, ?_⟩
  · have := Lib.run_convert_string_bytes (P := Try.prog) w 9 30 5 s Try.underlying9 Try.underlying30 Try.underlying5
    rw [h16] at this ⊢
    exact this
  · intro k hk
    have hz : s.size ≤ (Lib.bytesCells w 5 s).size := by simp [Lib.bytesCells]
    simp only [World.frozen?, Lib.bytesWorld_at_new]
    simp
    omega
  · intro k hk
    exact Lib.bytesWorld_cell w _ s k (by omega)

theorem conv_back (W : World) (g cap k : Nat) (L : List UInt8) (u : UInt8) (hL : L.length = 16) (hk : k < 16)
    (hc : ∀ j, j < 16 → W.cell? ⟨g, j, none⟩ = some (.int .u8 ((L.getD j 0).toNat : Int))) :
    (convert 30 9 (.slice (some ⟨g, 0, none⟩) 16 cap)).run Try.prog (W.setCell ⟨g, k, none⟩ (.int .u8 (u.toNat : Int))) = .ok (.string ⟨(L.set k u).toArray⟩) (W.setCell ⟨g, k, none⟩ (.int .u8 (u.toNat : Int))) := by
  have hl : (L.set k u).length = 16 := by rw [List.length_set, hL]
  have := run_convert_bytes_back (P := Try.prog) (W.setCell ⟨g, k, none⟩ (.int .u8 (u.toNat : Int))) 30 9 5 ⟨g, 0, none⟩ cap (L.set k u) Try.underlying30 Try.underlying5 Try.underlying9 fun j hj => ?_
  · rw [hl] at this
    exact this
  · rw [lit_add]
    by_cases e : j = k
    · subst e
      rw [World.cell?_setCell_same _ _ _ (hc j hk)]
      simp
    · rw [World.cell?_setCell_other _ _ _ _ (by simp), hc j (by omega)]
      have : j < L.length := by omega
      simp [List.getElem_set_ne (Ne.symm e), List.getD, this]

theorem set_same (L : List UInt8) (k : Nat) (h : k < L.length) : L.set k L[k] = L := by simp
theorem set_ne {L : List UInt8} {k : Nat} {u : UInt8} (h : k < L.length) (hu : u ≠ L[k]) : L.set k u ≠ L := by
  intro e
  apply hu
  have : (L.set k u)[k]'(by simpa using h) = L[k] := by simp only [e]
  simpa using this

/-- The text of two marks, held against each other. -/
theorem text_eq (m n : Nat) (hm : m < 18446744073709551616) (hn : n < 18446744073709551616) : ((ByteArray.mk (tx n).toArray).toList == (ByteArray.mk (tx m).toArray).toList) = ((m : Int) == (n : Int)) := by
  rw [toList_mk, toList_mk]
  by_cases h : m = n
  · subst h; simp
  · rw [beq_eq_false_iff_ne.2 (fun e => h (tx_inj hm hn e.symm)), beq_eq_false_iff_ne.2 (by omega)]

/-- It answers this mark and this truth, and nothing old is turned. -/
def RetRead (w : World) (x : Nat) (b : Bool) (e : Ending) (w' : World) : Prop := e = .returned (.tuple #[.int .u64 (x : Int), .bool b]) ∧ Below w.heap.size w w'
theorem read_some {s : ByteArray} {m : Nat} (h : rd s.data.toList = some m) (w : World) : Calls Try.prog 8 #[.string s] w (RetRead w m true) := by
  have := read_any s w
  rw [h] at this
  exact this
theorem read_none {s : ByteArray} (h : rd s.data.toList = none) (w : World) : Calls Try.prog 8 #[.string s] w (RetRead w 0 false) := by
  have := read_any s w
  rw [h] at this
  exact this

set_option maxRecDepth 100000 in
set_option maxHeartbeats 1000000 in
theorem markBack_core (m n k y : Nat) (a : Int) (c u : UInt8) (has : Bool) (L : List UInt8) (S T : ByteArray) (w : World) (hm : m < 18446744073709551616) (_ : n < 18446744073709551616) (hk16 : k < 16)
    (hLl : L.length = 16) (hu : L.getD k 0 = u) (heq : (T.toList == S.toList) = ((m : Int) == (n : Int))) (hlen : ((S.size : Int) != 16) = false)
    (HT : Hid (∀ W, Calls Try.prog 13 #[.int .u64 (m : Int)] W (RetStr W S))) (HU : Hid (∀ W, Calls Try.prog 13 #[.int .u64 (n : Int)] W (RetStr W T)))
    (HR : Hid (∀ W, Calls Try.prog 8 #[.string S] W (RetRead W m true))) (HQ : Hid (∀ W, Calls Try.prog 8 #[.string ⟨(L.set k c).toArray⟩] W (RetRead W y has)))
    (HN : Hid (∀ W, Calls Try.prog 15 #[.int .i64 a, .int .i64 16] W fun e w' => e = .returned (.int .i64 (k : Int)) ∧ W = w'))
    (HC : Hid (∀ w : World, ∃ (W : World) (cap : Nat), (convert 9 30 (.string S)).run Try.prog w = .ok (.slice (some ⟨w.heap.size, 0, none⟩) 16 cap) W ∧ Below w.heap.size w W ∧ w.heap.size < W.heap.size ∧
      (∀ k, k < 16 → W.frozen? ⟨w.heap.size, k, none⟩ = false) ∧ (∀ k, k < 16 → W.cell? ⟨w.heap.size, k, none⟩ = some (.int .u8 ((L.getD k 0).toNat : Int)))))
    (hx : (c = u ∧ has = true ∧ y = m) ∨ (c ≠ u ∧ has = false ∧ y = 0) ∨ (c ≠ u ∧ has = true ∧ y ≠ m)) :
    Calls Try.prog 4 #[.int .u64 (m : Int), .int .u64 (n : Int), .int .i64 a, .int .u8 (c.toNat : Int)] w (RetYes w) := by
  have HF := Lib.hid (mfirst_any w)
  have HX := Lib.hid hx
  have HLl := Lib.hid hLl
  have Hu := Lib.hid hu
  clear hx hLl hu
  go_enter Try.func4, Try.ntmps4
  go_wp2_with fail
  refine HF.out.mono ?_
  rintro e w1 ⟨rfl, hB⟩
  go_wp2_with fail
  refine (HT.out _).mono ?_
  rintro e w2 ⟨rfl, hB2⟩
  have hB2 := below_step hB hB.size hB2
  go_wp2_with fail
  refine (HR.out _).mono ?_
  rintro e w3 ⟨rfl, hB3⟩
  have hB3 := below_step hB2 hB2.size hB3
  go_wp2_with fail
  refine (HU.out _).mono ?_
  rintro e w4 ⟨rfl, hB4⟩
  have hB4 := below_step hB3 hB3.size hB4
  obtain ⟨W, cap, hcv, hB5, hlt, hfz, hcell⟩ := HC.out w4
  have hB5 := below_step hB4 hB4.size hB5
  have hcb := fun cap => conv_back W w4.heap.size cap k L c HLl.out hk16 hcell
  have hck := hcell k hk16
  have hfk := hfz k hk16
  rw [Hu.out] at hck
  have hg : w.heap.size ≤ w4.heap.size := hB4.size
  clear hcell hfz HC hB hB2 hB3 hB4
  go_wp2_with fail
  refine (HN.out _).mono ?_
  rintro e w' ⟨rfl, rfl⟩
  go_wp2_with fail
  refine (HQ.out _).mono ?_
  rintro e w6 ⟨rfl, hB6⟩
  have hB7 := hB5.setCell (p := ⟨w4.heap.size, k, none⟩) hg (.int .u8 (c.toNat : Int))
  have hB6 := below_step hB7 hB7.size hB6
  clear hcv hcb hck hfk
  have H6 := Lib.hid hB6
  clear hB5 hB6 hB7
  rcases HX.out with ⟨rfl, rfl, rfl⟩ | ⟨h1, rfl, rfl⟩ | ⟨h1, rfl, h2⟩
  · go_wp2
    go_ret
    exact ⟨rfl, H6.out⟩
  · have e1 : ((c.toNat : Int) == (u.toNat : Int)) = false := beq_eq_false_iff_ne.2 (fun e => h1 (UInt8.toNat_inj.1 (by omega)))
    have e2 : ((c.toNat : Int) != (u.toNat : Int)) = true := by rw [bne, e1]; rfl
    clear h1
    go_wp2
    go_ret
    exact ⟨rfl, H6.out⟩
  · have e1 : ((c.toNat : Int) == (u.toNat : Int)) = false := beq_eq_false_iff_ne.2 (fun e => h1 (UInt8.toNat_inj.1 (by omega)))
    have e2 : ((c.toNat : Int) != (u.toNat : Int)) = true := by rw [bne, e1]; rfl
    have e3 : ((y : Int) == (m : Int)) = false := beq_eq_false_iff_ne.2 (by omega)
    have e4 : ((y : Int) != (m : Int)) = true := by rw [bne, e3]; rfl
    clear h1 h2
    go_wp2
    go_ret
    exact ⟨rfl, H6.out⟩

theorem markBack_nat (m n : Nat) (a : Int) (c : UInt8) (w : World) (hm : m < 18446744073709551616) (hn : n < 18446744073709551616) :
    Calls Try.prog 4 #[.int .u64 (m : Int), .int .u64 (n : Int), .int .i64 a, .int .u8 (c.toNat : Int)] w (RetYes w) := by
  obtain ⟨k, hk⟩ : ∃ k : Nat, a % 16 = (k : Int) := ⟨(a % 16).toNat, by omega⟩
  have hk16 : k < 16 := by omega
  have hkl : k < (tx m).length := by rw [tx_length]; exact hk16
  have h16 : (ByteArray.mk (tx m).toArray).size = 16 := tx_length m
  have HN : ∀ W, Calls Try.prog 15 #[.int .i64 a, .int .i64 16] W fun e w' => e = .returned (.int .i64 (k : Int)) ∧ W = w' := fun W => by
    rw [← hk]; exact number_any a 16 W (by omega) (by omega)
  obtain ⟨u, hu⟩ : ∃ u, u = (tx m)[k] := ⟨_, rfl⟩
  have hg : (tx m).getD k 0 = u := by simp [hu, List.getD, hkl]
  have go := fun y has HQ hx => markBack_core m n k y a c u has (tx m) (ByteArray.mk (tx m).toArray) (ByteArray.mk (tx n).toArray) w hm hn hk16 (tx_length m) hg (text_eq m n hm hn) (by rw [h16]; rfl)
    (Lib.hid fun W => text_any m W hm) (Lib.hid fun W => text_any n W hn) (Lib.hid fun W => read_some (rd_tx m hm) W) HQ (Lib.hid HN) (Lib.hid fun W => conv_bytes W _ h16) hx
  by_cases hc : c = u
  · refine go m true (Lib.hid fun W => read_some ?_ W) (.inl ⟨hc, rfl, rfl⟩)
    rw [hc, hu, set_same _ _ hkl]
    exact rd_tx m hm
  · cases hr : rd ((tx m).set k c) with
    | none => exact go 0 false (Lib.hid fun W => read_none (by exact hr) W) (.inr (.inl ⟨hc, rfl, rfl⟩))
    | some r =>
      refine go r true (Lib.hid fun W => read_some (by exact hr) W) (.inr (.inr ⟨hc, rfl, fun e => ?_⟩))
      subst e
      exact set_ne hkl (by rw [← hu]; exact hc) (rd_back hr).1

/-- An integer of the kind uint8 is a byte. -/
theorem byte_of_u8 {a : Int} (h : (Lit.int .u8 a).wf = true) : ∃ c : UInt8, a = (c.toNat : Int) := by
  have h2 := bounds_u8 h
  exact ⟨UInt8.ofNat a.toNat, by rw [UInt8.toNat_ofNat', Nat.mod_eq_of_lt (by omega)]; omega⟩
theorem markBack_walk (a b c d : Int) (w : World) (ha : (Lit.int .u64 a).wf = true) (hb : (Lit.int .u64 b).wf = true) (_ : (Lit.int .i64 c).wf = true) (hd : (Lit.int .u8 d).wf = true) :
    Calls Try.prog 4 #[.int .u64 a, .int .u64 b, .int .i64 c, .int .u8 d] w (RetYes w) := by
  obtain ⟨m, rfl, hm⟩ := nat_of_u64 ha
  obtain ⟨n, rfl, hn⟩ := nat_of_u64 hb
  obtain ⟨u, rfl⟩ := byte_of_u8 hd
  exact markBack_nat m n c u w hm hn
end Go.Proofs.Ytollfedellhcoaa
