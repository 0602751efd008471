/-
  Lines of letters, as plain lists. Conditions: none.
-/
import Derived.Test.YtebijoipopiohaaQTxF
import Derived.Test.YtebijoipopiohaaQTxI
import Derived.Test.YtebijoipopiohaaQNumb
namespace Go.Proofs.Ytebijoipopiohaa
open Go.Shelf Go.RowKit Go.Lib

/-- The k-th letter of a line: its bytes; its rune. -/
def pcB (k : Nat) : List UInt8 := if k % 3 = 0 then [97] else if k % 3 = 1 then [206, 177] else [240, 159, 152, 128]
def pcR (k : Nat) : Nat := if k % 3 = 0 then 97 else if k % 3 = 1 then 945 else 128512
theorem pcR_ne (k : Nat) : pcR k ≠ 10 := by unfold pcR; split <;> (try split) <;> decide
theorem pcB_len (k : Nat) : (pcB k).length ≤ 4 := by unfold pcB; split <;> (try split) <;> decide
theorem pcs_pcB (k : Nat) (t : List UInt8) : (pcs (pcB k ++ t)).map (·.1) = pcR k :: (pcs t).map (·.1) := by
  unfold pcB pcR
  split
  · rw [List.singleton_append, pcs_ascii _ (by decide)]; rfl
  · split
    · rw [show [206, 177] ++ t = 206 :: 177 :: t from rfl, pcs_two _ (by decide) (by decide) (by decide)]; rfl
    · rw [pcs_app (p := [240, 159, 152, 128]) (r := 128512) (by simp) (by simp [dec, decodeN])]; rfl
/-- So many letters. -/
def seg : Nat → List UInt8
  | 0 => []
  | k + 1 => seg k ++ pcB k
def segR : Nat → List Nat
  | 0 => []
  | k + 1 => segR k ++ [pcR k]
theorem segR_length : ∀ n, (segR n).length = n
  | 0 => rfl
  | n + 1 => by simp [segR, segR_length n]
theorem segR_ne : ∀ n, ∀ r ∈ segR n, r ≠ 10
  | 0, r, h => by simp [segR] at h
  | n + 1, r, h => by
    rcases List.mem_append.1 h with h | h
    · exact segR_ne n r h
    · simp at h; subst h; exact pcR_ne n
theorem seg_len : ∀ n, (seg n).length ≤ 4 * n
  | 0 => by simp [seg]
  | n + 1 => by
    have h1 := seg_len n
    have h2 := pcB_len n
    simp [seg]
    omega
theorem pcs_seg : ∀ (n : Nat) (t : List UInt8), (pcs (seg n ++ t)).map (·.1) = segR n ++ (pcs t).map (·.1)
  | 0, t => by simp [seg, segR]
  | n + 1, t => by simp only [seg, segR, List.append_assoc]; rw [pcs_seg n, pcs_pcB]; simp
/-- Lines of so many letters. -/
def txt : List Nat → List UInt8
  | [] => []
  | n :: t => seg n ++ 10 :: txt t
def txtR : List Nat → List Nat
  | [] => []
  | n :: t => segR n ++ 10 :: txtR t
theorem txt_append : ∀ a b : List Nat, txt (a ++ b) = txt a ++ txt b
  | [], b => rfl
  | n :: t, b => by simp [txt, txt_append t b]
theorem txtR_append : ∀ a b : List Nat, txtR (a ++ b) = txtR a ++ txtR b
  | [], b => rfl
  | n :: t, b => by simp [txtR, txtR_append t b]
theorem pcs_txt : ∀ ns : List Nat, (pcs (txt ns)).map (·.1) = txtR ns
  | [] => by simp [txt, txtR, pcs_nil]
  | n :: t => by rw [txt, pcs_seg, pcs_ascii _ (by decide), List.map_cons, pcs_txt t]; rfl
theorem txt_len (m : Nat) : ∀ ns : List Nat, (∀ n ∈ ns, n ≤ m) → (txt ns).length ≤ ns.length * (4 * m + 1)
  | [], _ => by simp [txt]
  | n :: t, h => by
    have h1 := txt_len m t (fun x hx => h x (List.mem_cons_of_mem _ hx))
    have h2 := seg_len n
    have h3 := h n (by simp)
    simp [txt]
    rw [Nat.add_mul]
    omega
/-- How many runes they have. -/
def plen (ns : List Nat) : Nat := (txtR ns).length
theorem plen_snoc (ns : List Nat) (n : Nat) : plen (ns ++ [n]) = plen ns + n + 1 := by
  unfold plen
  rw [txtR_append]
  simp [txtR, segR_length]
  omega
theorem plen_le (m : Nat) : ∀ ns : List Nat, (∀ n ∈ ns, n ≤ m) → plen ns ≤ ns.length * (m + 1)
  | [], _ => by simp [plen, txtR]
  | n :: t, h => by
    have h1 := plen_le m t (fun x hx => h x (List.mem_cons_of_mem _ hx))
    have h3 := h n (by simp)
    simp [plen, txtR, segR_length] at h1 ⊢
    rw [Nat.add_mul]
    omega

/-- The line and the column behind runes. -/
def lcN (a : Nat × Nat) (rs : List Nat) : Nat × Nat := rs.foldl (fun a r => if r = 10 then (a.1 + 1, 1) else (a.1, a.2 + 1)) a
theorem lcN_append (a : Nat × Nat) (x y : List Nat) : lcN a (x ++ y) = lcN (lcN a x) y := by simp [lcN]
theorem lcN_plain : ∀ (rs : List Nat) (a : Nat × Nat), (∀ r ∈ rs, r ≠ 10) → lcN a rs = (a.1, a.2 + rs.length)
  | [], a, _ => rfl
  | r :: t, a, h => by
    have h1 := h r (by simp)
    have := lcN_plain t (a.1, a.2 + 1) (fun x hx => h x (List.mem_cons_of_mem _ hx))
    simp only [lcN, List.foldl_cons, h1, if_false, List.length_cons] at this ⊢
    rw [this]
    simp
    omega
theorem lcN_txt : ∀ (ns : List Nat) (m : Nat), lcN (m, 1) (txtR ns) = (m + ns.length, 1)
  | [], m => rfl
  | n :: t, m => by
    rw [txtR, lcN_append, lcN_plain _ _ (segR_ne n)]
    have := lcN_txt t (m + 1)
    simp only [lcN, List.foldl_cons, if_true] at this ⊢
    rw [this]
    simp
    omega
theorem lc_nums : ∀ (p : List (Nat × Nat)) (i : Nat) (a : Nat × Nat), (nums i p).foldl lcS a = lcN a (p.map (·.1))
  | [], _, _ => rfl
  | q :: t, i, a => by
    have := lc_nums t (i + 1) (lcS a (i, q.1))
    simp only [nums, List.foldl_cons, List.map_cons, lcN] at this ⊢
    rw [this]
    rfl
theorem ahead_nums : ∀ (p : List (Nat × Nat)) (i m : Nat), (nums i p).takeWhile (ahead ((i + m : Nat) : Int)) = nums i (p.take m)
  | [], _, _ => by simp [nums]
  | q :: t, i, 0 => by simp [nums, ahead]
  | q :: t, i, m + 1 => by
    have := ahead_nums t (i + 1) m
    rw [show i + 1 + m = i + (m + 1) by omega] at this
    rw [nums, List.takeWhile_cons, if_pos (by simp [ahead]; omega), this]
    rfl
theorem ln_take (s : ByteArray) (m : Nat) : lnAt s (m : Int) = lcN (1, 1) (((pcs s.data.toList).map (·.1)).take m) := by
  have := ahead_nums (pcs s.data.toList) 0 m
  rw [Nat.zero_add] at this
  unfold lnAt runs lc
  rw [this, lc_nums, List.map_take]
theorem ln_lines (s : ByteArray) (ns : List Nat) (i col : Nat) (hi : i < ns.length) (hs : s.data.toList = txt ns) (hc : col ≤ ns[i]) : lnAt s ((plen (ns.take i) + col : Nat) : Int) = (i + 1, col + 1) := by
  rw [ln_take, hs, pcs_txt]
  have e : txtR ns = txtR (ns.take i) ++ (segR ns[i] ++ 10 :: txtR (ns.drop (i + 1))) := by
    conv => lhs; rw [← List.take_append_drop i ns, List.drop_eq_getElem_cons hi, txtR_append]
    rfl
  rw [e]
  unfold plen
  rw [List.take_length_add_append, lcN_append, lcN_txt, List.take_append_of_le_length (by rw [segR_length]; exact hc), lcN_plain _ _ (fun r hr => segR_ne _ r (List.mem_of_mem_take hr))]
  simp [segR_length]
  omega
end Go.Proofs.Ytebijoipopiohaa
