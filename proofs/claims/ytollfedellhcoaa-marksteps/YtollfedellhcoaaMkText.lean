/-
  The walks of mark's Text, and of the statements' own MarkText. Conditions: each theorem's own premises.
-/
import Derived.Test.YtollfedellhcoaaMkAdd
import Derived.Laws.IdiomStrings
namespace Go.Proofs.Ytollfedellhcoaa
open Go.RowKit

/-- It answers a text, and nothing old is turned. -/
def RetText (w : World) (l : List UInt8) (e : Ending) (w' : World) : Prop := e = .returned (.string ⟨l.toArray⟩) ∧ Below w.heap.size w w'

/-- The sixteen cells when j digits stand. -/
def txCells (j m : Nat) : List Value := List.replicate (16 - j) (.int .u8 0) ++ (txG j m).map byt

theorem txCells_size (j m : Nat) (h : j ≤ 16) : (txCells j m).toArray.size = 16 := by
  simp [txCells, txG_length]; omega
theorem txCells_at (j m : Nat) (h : j < 16) : (txCells j m).toArray[15 - j]? = some (.int .u8 0) := by
  simp only [txCells, List.getElem?_toArray]
  rw [List.getElem?_append_left (by simp; omega), List.getElem?_replicate, if_pos (by omega)]
theorem txCells_set (j m : Nat) (h : j < 16) : (txCells j m).toArray.setIfInBounds (15 - j) (byt (hexd (m / 16 ^ j % 16))) = (txCells (j + 1) m).toArray := by
  have e : 16 - j = (15 - j) + 1 := by omega
  unfold txCells
  rw [List.setIfInBounds_toArray, e, List.replicate_succ', List.append_assoc, List.set_append_right _ _ (by simp), List.length_replicate, Nat.sub_self, show 16 - (j + 1) = 15 - j from by omega]
  rfl
theorem and15 (x : Nat) (h : x < 18446744073709551616) : bits .and .u64 (x : Int) 15 = ((x % 16 : Nat) : Int) := by
  rw [show (15 : Int) = ((15 : Nat) : Int) from rfl, u64_and_nat _ _ h (by omega), nat_mask4]
theorem txCells_zero (m : Nat) : (txCells 0 m).toArray = #[.int .u8 0, .int .u8 0, .int .u8 0, .int .u8 0, .int .u8 0, .int .u8 0, .int .u8 0, .int .u8 0, .int .u8 0, .int .u8 0, .int .u8 0, .int .u8 0, .int .u8 0, .int .u8 0, .int .u8 0, .int .u8 0] := rfl
theorem digit_at (d : Nat) (h : d < 16) (h2 : d < (ByteArray.mk #[48, 49, 50, 51, 52, 53, 54, 55, 56, 57, 97, 98, 99, 100, 101, 102]).size) : (ByteArray.mk #[48, 49, 50, 51, 52, 53, 54, 55, 56, 57, 97, 98, 99, 100, 101, 102])[d] = hexd d := by
  have H : ∀ d : Fin 16, (#[48, 49, 50, 51, 52, 53, 54, 55, 56, 57, 97, 98, 99, 100, 101, 102] : Array UInt8)[d.val]'(d.isLt) = hexd d.val := by decide
  exact H ⟨d, h⟩
theorem div_pow_succ (m j : Nat) : m / 16 ^ (j + 1) = m / 16 ^ j / 16 := by rw [Nat.pow_succ, Nat.div_div_eq_div_mul]
/-- The sixteen cells as a text. -/
theorem conv_cells (w : World) (g cap : Nat) (C : Array Value) (l : List UInt8) (t : TypeId) (hC : C = (l.map byt).toArray) (hg : w.heap[g]? = some (.cells C t (0, 0))) :
    (convert 30 9 (.slice (some ⟨g, 0, none⟩) l.length cap)).run Try.prog w = .ok (.string ⟨l.toArray⟩) w := by
  refine run_convert_bytes_back w 30 9 5 _ cap l Try.underlying30 Try.underlying5 Try.underlying9 fun j hj => ?_
  rw [lit_add, cell_of_row w g j C t (0, 0) hg, hC]
  simp [byt, List.getElem?_eq_getElem hj]
/-- Where Text's loop stands. -/
def TextRel (w : World) (m : Nat) (x i : Value) (wr : World) : Prop :=
  ∃ j : Nat, j ≤ 16 ∧ x = .int .u64 ((m / 16 ^ j : Nat) : Int) ∧ i = .int .i64 (15 - (j : Int)) ∧ wr = w.alloc (.cells (txCells j m).toArray 38)

set_option maxRecDepth 100000 in
set_option maxHeartbeats 400000 in
theorem text_any (m : Nat) (w : World) (hm : m < 18446744073709551616) : Calls Try.prog 13 #[.int .u64 (m : Int)] w (RetText w (tx m)) := by
  go_enter Try.func13, Try.ntmps13
  go_wp2
  go_loopw [0, 4] (fun x i wr => TextRel w m x i wr) (fun _ i _ => (intOf i + 1).toNat)
  case atStart => exact ⟨0, by omega, by simp, rfl, by rw [txCells_zero]⟩
  case round =>
    obtain ⟨j, hj, rfl, rfl, rfl⟩ := hrel
    obtain ⟨x, hx⟩ : ∃ x, x = m / 16 ^ j := ⟨_, rfl⟩
    have hxl : x < 18446744073709551616 := by rw [hx]; exact Nat.lt_of_le_of_lt (Nat.div_le_self _ _) hm
    rw [← hx]
    have HX := Lib.hid hx
    clear hx
    by_cases hlt : j < 16
    · have c1 := txCells_at j m hlt
      have c2 := txCells_size j m hj
      obtain ⟨C, hC⟩ : ∃ C, C = (txCells j m).toArray := ⟨_, rfl⟩
      rw [← hC] at c1 c2 ⊢
      have HC := Lib.hid hC
      clear hC
      have hd := and15 x hxl
      have hlt2 : x % 16 < 16 := Nat.mod_lt _ (by omega)
      have ei : (15 - (j : Int)).toNat = 15 - j := by omega
      go_wp2
      go_roundw
      case rel =>
        refine ⟨j + 1, by omega, ?_, by go_num, ?_⟩
        · rw [div_pow_succ, ← HX.out]; simp
        · rw [digit_at _ hlt2, ← txCells_set j m hlt, ← HX.out, ← HC.out]; rfl
      case measure => simp [intOf]; omega
    · have e : j = 16 := by omega
      subst e
      have hcv := conv_cells (w.alloc (.cells (txCells 16 m).toArray 38)) w.heap.size 16 (txCells 16 m).toArray (tx m) 38 rfl (heap_alloc_new w _)
      rw [tx_length] at hcv
      go_wp2
      go_ret
      exact ⟨rfl, (Below.refl _ _).alloc (Nat.le_refl _) _⟩

/-- Where MarkText's loop stands. -/
def MTextRel (w : World) (m : Nat) (b i : Value) (wr : World) : Prop :=
  ∃ (j : Nat) (L : List UInt8) (A : Option Addr) (c : Nat), j ≤ 16 ∧ b = .slice A L.length c ∧ i = .int .i64 ((j : Int) - 1) ∧ Own wr w.heap.size A c L ∧ Below w.heap.size w wr ∧ L.length + j = 16 ∧ L ++ txG j m = tx m
theorem shr_at (m j : Nat) (h : m < 18446744073709551616) : bits .and .u64 ((m : Int) / 2 ^ (4 * j)) 15 = ((m / 16 ^ j % 16 : Nat) : Int) := by
  have e : (m : Int) / 2 ^ (4 * j) = ((m / 16 ^ j : Nat) : Int) := by
    rw [show (16 : Nat) = 2 ^ 4 from rfl, ← Nat.pow_mul]
    simp
  rw [e]
  exact and15 _ (Nat.lt_of_le_of_lt (Nat.div_le_self _ _) h)
theorem mtext_step {w w1 : World} {m j d : Nat} {L : List UInt8} {v' : Value} (hB : Below w.heap.size w w1) (hd : d = m / 16 ^ j % 16) (hL : L.length + (j + 1) = 16) (he : L ++ txG (j + 1) m = tx m)
    (ho : w1.ownsRow w.heap.size 5 1 v' (L.length + 1) (L.map byt ++ [.int .u8 ((hexd d).toNat : Int)])) :
    MTextRel w m v' (.int .i64 ((j : Int) - 1)) w1 := by
  obtain ⟨A, c, rfl, ho'⟩ := own_of_row (news := [hexd d]) rfl ho
  refine ⟨j, L ++ [hexd d], A, c, by omega, rfl, rfl, ho', hB, by simp; omega, ?_⟩
  rw [List.append_assoc, ← he, txG, hd]
  rfl

set_option maxRecDepth 100000 in
set_option maxHeartbeats 400000 in
theorem markText_any (m : Nat) (w : World) (hm : m < 18446744073709551616) : Calls Try.prog 14 #[.int .u64 (m : Int)] w (RetText w (tx m)) := by
  obtain ⟨i0, hi, hz0, hz1, hz2⟩ := info_parts Try.info8
  go_enter Try.func14, Try.ntmps14
  go_wp2
  go_loopw [3, 4] (fun b i wr => MTextRel w m b i wr) (fun _ i _ => (intOf i + 1).toNat)
  case atStart => exact ⟨16, [], none, 0, by omega, rfl, rfl, World.ownsRow_nil _ _ _ _, Below.refl _ _, rfl, rfl⟩
  case round =>
    obtain ⟨j, L, A, c, hj, rfl, rfl, ho, hB, hL, he⟩ := hrel
    have HL := Lib.hid hL
    have HE := Lib.hid he
    have hLl : L.length ≤ 16 := by omega
    have hbs : w.heap.size ≤ wr.heap.size := hB.size
    clear hL he
    by_cases hlt : 0 < j
    · obtain ⟨j, rfl⟩ : ∃ j', j = j' + 1 := ⟨j - 1, by omega⟩
      have ej : ((j + 1 : Nat) : Int) - 1 = (j : Int) := by omega
      rw [ej]
      have hd := shr_at m j hm
      obtain ⟨d, hd0⟩ : ∃ d, d = m / 16 ^ j % 16 := ⟨_, rfl⟩
      have hdl : d < 16 := by rw [hd0]; exact Nat.mod_lt _ (by omega)
      rw [← hd0] at hd
      have HD := Lib.hid hd0
      have hx := hexd_toNat d hdl
      clear hd0 ej
      by_cases hz : d < 10
      · rw [if_pos hz] at hx
        have hx2 : (48 : Int) + (d : Int) = ((hexd d).toNat : Int) := by omega
        have HX := Lib.hid hx2
        clear hx hx2
        go_wp2_with (at_builtin; refine wpList_append_own _ rfl _ _ 30 rfl w.heap.size 5 i0 (.int .u8 0) 1 1 Try.underlying30 hi hz0 hz1 hz2 rfl (by decide) _ _ _ rfl (ho.alloc _) ⟨wr.heap.size, 0, none⟩ 1 1 [.int .u8 (48 + (d : Int))] rfl rfl ?c1 ?c2 ?c3 ?c4 ?c5 ?_)
        case c1 =>
          intro j v hj
          match j, hj with
          | 0, hj => simp at hj; subst hj; simp [Addr.add]
        case c2 => intro v hv; simp at hv; subst hv; rfl
        case c3 => unfold maxLen; omega
        case c4 => omega
        case c5 => simp; omega
        intro v' w1 hown' hgrow _
        have hB1 : Below w.heap.size w w1 := ((hB.alloc hbs _).grown hgrow (by simp; omega) (fun k hk => (Own.block ho k hk).1))
        have R := mtext_step hB1 HD.out HL.out HE.out (by rw [← HX.out]; exact hown')
        clear hown' hgrow
        go_wp2
        go_roundw
        case rel => exact R
        case measure => simp [intOf]
      · rw [if_neg hz] at hx
        have hx2 : (97 : Int) + (d : Int) - 10 = ((hexd d).toNat : Int) := by omega
        have HX := Lib.hid hx2
        clear hx hx2
        go_wp2_with (at_builtin; refine wpList_append_own _ rfl _ _ 30 rfl w.heap.size 5 i0 (.int .u8 0) 1 1 Try.underlying30 hi hz0 hz1 hz2 rfl (by decide) _ _ _ rfl (ho.alloc _) ⟨wr.heap.size, 0, none⟩ 1 1 [.int .u8 (97 + (d : Int) - 10)] rfl rfl ?d1 ?d2 ?d3 ?d4 ?d5 ?_)
        case d1 =>
          intro j v hj
          match j, hj with
          | 0, hj => simp at hj; subst hj; simp [Addr.add]
        case d2 => intro v hv; simp at hv; subst hv; rfl
        case d3 => unfold maxLen; omega
        case d4 => omega
        case d5 => simp; omega
        intro v' w1 hown' hgrow _
        have hB1 : Below w.heap.size w w1 := ((hB.alloc hbs _).grown hgrow (by simp; omega) (fun k hk => (Own.block ho k hk).1))
        have R := mtext_step hB1 HD.out HL.out HE.out (by rw [← HX.out]; exact hown')
        clear hown' hgrow
        go_wp2
        go_roundw
        case rel => exact R
        case measure => simp [intOf]
    · obtain rfl : j = 0 := by omega
      have e : L = tx m := by have := HE.out; simpa [txG] using this
      have hcv : (convert 30 9 (.slice A L.length c)).run Try.prog wr = .ok (.string ⟨(tx m).toArray⟩) wr := by
        have h16 := HL.out
        rcases ho.form with ⟨_, _, h⟩ | ⟨g, rfl, _⟩
        · rw [h] at h16; simp at h16
        · rw [← e]
          refine run_convert_bytes_back wr 30 9 5 _ c L Try.underlying30 Try.underlying5 Try.underlying9 fun j hj => ?_
          obtain ⟨ad, ea, _, hc⟩ := ho.str.pick hj
          injection ea with ea
          rw [ea]
          exact hc
      clear e
      go_wp2
      go_ret
      exact ⟨rfl, hB⟩
end Go.Proofs.Ytollfedellhcoaa
