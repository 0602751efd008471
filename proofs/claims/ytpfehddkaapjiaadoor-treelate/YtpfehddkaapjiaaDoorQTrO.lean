/-
  The walk of the documents' Rising. Conditions: each theorem's own premises.
-/
import Derived.Test.YtpfehddkaapjiaaDoorQTrN
namespace Go.Proofs.YtpfehddkaapjiaaDoor
open Go.RowKit Go.Lib Go.Sort Go.Shelf
attribute [local go_sem] Oper.semAt_some

theorem ins_split (x : List UInt8) : ∀ (o : List (List UInt8)) (k : Nat), k ≤ o.length → (∀ i (hi : i < o.length), i < k → o[i] < x) → (∀ h : k < o.length, ¬ o[k] < x) →
    insT x o = if ∃ h : k < o.length, o[k] = x then o else o.take k ++ x :: o.drop k
  | [], k, hk, _, _ => by
    obtain rfl : k = 0 := by simpa using hk
    simp [insT]
  | a :: r, 0, _, _, h2 => by
    have := h2 (by simp)
    simp only [List.getElem_cons_zero] at this
    unfold insT
    rw [if_neg this]
    by_cases e : a = x
    · simp [e]
    · simp [e]
  | a :: r, k + 1, hk, h1, h2 => by
    have h0 : a < x := h1 0 (by simp) (by omega)
    have ih := ins_split x r k (by simpa using hk) (fun i hi hik => by have := h1 (i + 1) (by simpa using hi) (by omega); simpa using this) (fun h => by have := h2 (by simpa using h); simpa using this)
    unfold insT
    rw [if_pos h0, ih]
    by_cases e : ∃ h : k < r.length, r[k] = x
    · have e2 : ∃ h : k + 1 < (a :: r).length, (a :: r)[k + 1] = x := by obtain ⟨h, e⟩ := e; exact ⟨by simpa using h, by simpa using e⟩
      rw [if_pos e, if_pos e2]
    · have e2 : ¬ ∃ h : k + 1 < (a :: r).length, (a :: r)[k + 1] = x := fun ⟨h, e'⟩ => e ⟨by simpa using h, by simpa using e'⟩
      rw [if_neg e, if_neg e2]
      rfl
theorem insT_len (x : List UInt8) : ∀ o : List (List UInt8), (insT x o).length ≤ o.length + 1
  | [] => by simp [insT]
  | a :: r => by
    have := insT_len x r
    unfold insT
    split
    · simp; omega
    · split <;> simp
theorem risT_len : ∀ n (l : List (List UInt8)), l.length = n → (risT l).length ≤ n
  | 0, l, h => by
    obtain rfl := List.eq_nil_of_length_eq_zero h
    simp [risT]
  | n + 1, l, h => by
    rcases snoc_cases l with rfl | ⟨r, a, rfl⟩
    · simp at h
    · have ih := risT_len n r (by simpa using h)
      have := insT_len a (risT r)
      rw [risT_snoc]
      omega
theorem LNinfo : (Tryd.prog.info? 9).map (fun i => (i.zero, i.size, i.bytes)) = some (some (.string { data := #[] }), 1, 16) := by kernel_rfl
theorem ln_cuth (A : Option Addr) (n c k : Nat) (W : World) (h : k ≤ c) :
    (Instr.slice 35 (.slice A n c) none (some (.int .i64 (k : Int))) none).run Tryd.prog W = .ok (.slice A k c) W := by
  have e := run_slice_h (P := Tryd.prog) (w := W) (t := 35) (a := A) (len := n) (cap := c) (by kernel_rfl) .i64 (k : Int) (by omega) (by omega)
  obtain ⟨i0, hi, hz0, hz1, hz2⟩ := info_parts LNinfo
  have he : Tryd.prog.elem 35 = 9 := by kernel_rfl
  have e2 : (if c = 0 then A else A.map (·.add 0)) = A := by
    split
    · rfl
    · cases A <;> simp [add_zero]
  rw [e, he]
  simp [sizeOf, typeInfo, hi, hz1, sliced, e2]
theorem ln_cutl (A : Option Addr) (n c k : Nat) (W : World) (h : k ≤ n) :
    (Instr.slice 35 (.slice A n c) (some (.int .i64 (k : Int))) none none).run Tryd.prog W = .ok (.slice (if c = k then A else A.map (·.add k)) (n - k) (c - k)) W := by
  have e := run_slice_l (P := Tryd.prog) (w := W) (t := 35) (a := A) (len := n) (cap := c) (by kernel_rfl) .i64 (k : Int) (by omega) (by omega)
  obtain ⟨i0, hi, hz0, hz1, hz2⟩ := info_parts LNinfo
  have he : Tryd.prog.elem 35 = 9 := by kernel_rfl
  rw [e, he]
  simp [sizeOf, typeInfo, hi, hz1, sliced]
theorem Rw.lndrop {w : World} {B : Nat} {A : Option Addr} {l : List (List UInt8)} (h : Rw LN w B A l) (c k : Nat) (hc : l.length ≤ c) : Rw LN w B (if c = k then A else A.map (·.add k)) (l.drop k) := by
  by_cases e : c = k
  · rw [List.drop_eq_nil_of_le (by omega)]
    exact Rw.nil
  · rw [if_neg e]
    refine ⟨fun hn => ?_⟩
    obtain ⟨ad, rfl, hb, hx⟩ := h.here (by rintro rfl; simp at hn)
    refine ⟨ad.add k, rfl, by rw [add_block]; exact hb, fun j u hu => ?_⟩
    have hk : k < l.length := by
      rcases Nat.lt_or_ge k l.length with h | h
      · exact h
      · exact absurd (List.drop_eq_nil_of_le h) hn
    rw [add_add]
    refine hx _ _ ?_
    have e1 : LN.cells l = LN.cells (l.take k) ++ LN.cells (l.drop k) := by rw [← LN.cells_append, List.take_append_drop]
    have e2 : (LN.cells (l.take k)).length = k := by rw [LN.cells_length, List.length_take, Nat.min_eq_left (by omega)]; exact Nat.mul_one k
    rw [e1, List.getElem?_append_right (by omega), e2, show k + j - k = j by omega]
    exact hu
def zeroN (n : Nat) : Array Value := madeCells #[.string ⟨#[]⟩] (n * 1)
theorem make_texts (n : Nat) (w : World) (h : n ≤ 2000000) : (Instr.makeSlice 35 (.int .i64 0) (.int .i64 (n : Int))).run Tryd.prog w = .ok (.slice (some ⟨w.heap.size, 0, none⟩) 0 n) (w.alloc (.cells (zeroN n) 9)) := by
  obtain ⟨i, hi, hz, hs, hb⟩ := info_parts LNinfo
  have := run_make (P := Tryd.prog) w 35 9 i _ Tryd.underlying35 hi hz .i64 .i64 0 (n : Int) (by omega) (by omega) (by rw [hb]; omega) (by omega)
  rw [this, hs]
  rfl
theorem ow_texts (n : Nat) (w : World) (h : n ≤ 2000000) : Ow LN (w.alloc (.cells (zeroN n) 9)) w.heap.size (.slice (some ⟨w.heap.size, 0, none⟩) 0 n) [] :=
  Ow.of (L := LN) (l := []) (Nat.le_refl _) (heap_alloc_new w _) (by simp) (by simp [maxLen]; omega) (by unfold zeroN; rw [size_madeCells]; rfl) (by simp [Lie.cells])
theorem bl_drw (w : World) (n : Nat) : Below w.heap.size w (w.drewN n) := ⟨rfl, rfl, rfl, Nat.le_refl _, fun _ _ => rfl⟩
end Go.Proofs.YtpfehddkaapjiaaDoor
