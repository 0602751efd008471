/-
  The walk of LexJoins. Conditions: the listed errors lie as they are laid.
-/
import Derived.Test.YtndagbmcdpafjaaDoorQLxJ
import Derived.Test.YtndagbmcdpafjaaDoorQLxT
import Derived.Test.YtndagbmcdpafjaaDoorQLxFr
import Derived.Test.YtndagbmcdpafjaaDoorQNumb
namespace Go.Proofs.YtndagbmcdpafjaaDoor
open Go.Shelf Go.RowKit Go.Lib

theorem catI_append : ∀ (a b : List It), catI (a ++ b) = catI a ++ catI b
  | [], b => rfl
  | x :: t, b => by simp [catI, catI_append t b]
theorem tkI_text (N z : Nat) : ∀ (l : List It) (k : Nat) (hk : k < l.length), ((tkI N z l)[k]'(by rw [tkI_length]; exact hk)).text = encs l[k].w
  | x :: t, 0, _ => rfl
  | x :: t, k + 1, hk => tkI_text N z t k (by simpa using hk)
/-- How a text lies. -/
def LS : Lie ByteArray := ⟨9, 1, fun s => [.string s], fun _ => rfl, fun _ u hu => by simp at hu; subst hu; rfl⟩
theorem LSat : LieAt Tryd.prog 52 LS := by
  have h : (Tryd.prog.info? 9).map (fun i => (i.zero, i.size, i.bytes)) = some (some (.string ⟨#[]⟩), 1, 16) := by kernel_rfl
  obtain ⟨i0, hi, hz0, hz1, hz2⟩ := info_parts h
  exact ⟨Tryd.underlying52, ⟨i0, _, hi, hz0, hz1, by omega, rfl⟩, by decide⟩

/-- The words and signs; the gaps. -/
def jw : List (List Nat) := [[120], [955, 95, 49], [102, 98, 121], [49, 50], [48], [57, 50, 50, 51, 51, 55, 50, 48, 51, 54, 56, 53, 52, 55, 55, 53, 56, 48, 55], [40], [45, 62], [60, 62], [60, 61], [45], [109, 101, 114, 103, 101], [97, 97], [61], [59]]
def jg : List (List Nat) := [[32], [10], [9, 32], [32, 45, 45, 32, 119, 104, 97, 116, 10], [45, 45, 10, 10]]
def jk : List (Nat × Nat) := [(1, 0), (1, 0), (2, 0), (3, 12), (3, 0), (3, 9223372036854775807), (4, 0), (4, 0), (4, 0), (4, 0), (4, 0), (2, 0), (1, 0), (4, 0), (4, 0)]
def jwC : List ByteArray := [⟨#[120]⟩, ⟨#[206, 187, 95, 49]⟩, ⟨#[102, 98, 121]⟩, ⟨#[49, 50]⟩, ⟨#[48]⟩, ⟨#[57, 50, 50, 51, 51, 55, 50, 48, 51, 54, 56, 53, 52, 55, 55, 53, 56, 48, 55]⟩, ⟨#[40]⟩, ⟨#[45, 62]⟩, ⟨#[60, 62]⟩, ⟨#[60, 61]⟩, ⟨#[45]⟩, ⟨#[109, 101, 114, 103, 101]⟩, ⟨#[97, 97]⟩, ⟨#[61]⟩, ⟨#[59]⟩]
def jgC : List ByteArray := [⟨#[32]⟩, ⟨#[10]⟩, ⟨#[9, 32]⟩, ⟨#[32, 45, 45, 32, 119, 104, 97, 116, 10]⟩, ⟨#[45, 45, 10, 10]⟩]
def wJ (a : Nat) : List Nat := jw.getD a []
def gJ (a b : Nat) : List Nat := if a = 10 then [32] else jg.getD b []
def itJ (a b : Nat) : It := ⟨wJ a, gJ a b, (jk.getD a (0, 0)).1, (jk.getD a (0, 0)).2⟩
theorem jg_ok : ∀ b, b < 5 → Gap (jg.getD b []) ∧ ∃ c u, jg.getD b [] = c :: u ∧ inNm c = false ∧ (c = 32 ∨ c = 10 ∨ c = 9 ∨ c = 45) := fun b hb => by
  rcases (by omega : b = 0 ∨ b = 1 ∨ b = 2 ∨ b = 3 ∨ b = 4) with rfl | rfl | rfl | rfl | rfl
  · exact ⟨Gap.blank (by decide) Gap.nil, _, _, rfl, by decide, by decide⟩
  · exact ⟨Gap.blank (by decide) Gap.nil, _, _, rfl, by decide, by decide⟩
  · exact ⟨Gap.blank (by decide) (Gap.blank (by decide) Gap.nil), _, _, rfl, by decide, by decide⟩
  · exact ⟨Gap.blank (by decide) (Gap.remark (m := [32, 119, 104, 97, 116]) (by decide) Gap.nil), _, _, rfl, by decide, by decide⟩
  · exact ⟨Gap.remark (m := []) (by decide) (Gap.blank (by decide) Gap.nil), _, _, rfl, by decide, by decide⟩
theorem sgn_gap {a c : Nat} (ha : a = 40 ∨ a = 61 ∨ a = 59) (hc : c = 32 ∨ c = 10 ∨ c = 9 ∨ c = 45) : sgn a c = 1 := by
  rcases ha with rfl | rfl | rfl <;> rcases hc with rfl | rfl | rfl | rfl <;> decide
theorem itJ_good (a b : Nat) (ha : a < 15) (hb : b < 5) : (itJ a b).Good := by
  obtain ⟨hg, c, u, e, h1, h2⟩ := jg_ok b hb
  have hh : ∃ b' u', jg.getD b [] = b' :: u' ∧ inNm b' = false := ⟨c, u, e, h1⟩
  rcases (by omega : a = 0 ∨ a = 1 ∨ a = 2 ∨ a = 3 ∨ a = 4 ∨ a = 5 ∨ a = 6 ∨ a = 7 ∨ a = 8 ∨ a = 9 ∨ a = 10 ∨ a = 11 ∨ a = 12 ∨ a = 13 ∨ a = 14) with rfl | rfl | rfl | rfl | rfl | rfl | rfl | rfl | rfl | rfl | rfl | rfl | rfl | rfl | rfl
  · exact It.name (a := 120) (t := []) (by decide) (by decide) (by decide) hg hh 1 (by decide)
  · exact It.name (a := 955) (t := [95, 49]) (by decide) (by decide) (by decide) hg hh 1 (by decide)
  · exact It.name (a := 102) (t := [98, 121]) (by decide) (by decide) (by decide) hg hh 2 (by decide)
  · exact It.num (a := 49) (t := [50]) (by decide) (by decide) hg hh
  · exact It.num (a := 48) (t := []) (by decide) (by decide) hg hh
  · exact It.num (a := 57) (t := [50, 50, 51, 51, 55, 50, 48, 51, 54, 56, 53, 52, 55, 55, 53, 56, 48, 55]) (by decide) (by decide) hg hh
  · exact It.sign1 (a := 40) (by decide) (by decide) (by decide) (by decide) hg ⟨c, u, e, sgn_gap (by decide) h2, .inl (by decide)⟩
  · exact It.sign2 (a := 45) (b := 62) (by decide) (by decide) (by decide) (by decide) hg (by decide) (.inr (by decide))
  · exact It.sign2 (a := 60) (b := 62) (by decide) (by decide) (by decide) (by decide) hg (by decide) (.inl (by decide))
  · exact It.sign2 (a := 60) (b := 61) (by decide) (by decide) (by decide) (by decide) hg (by decide) (.inl (by decide))
  · exact It.sign1 (a := 45) (g := [32]) (by decide) (by decide) (by decide) (by decide) (Gap.blank (by decide) Gap.nil) ⟨32, [], rfl, by decide, .inr (by decide)⟩
  · exact It.name (a := 109) (t := [101, 114, 103, 101]) (by decide) (by decide) (by decide) hg hh 2 (by decide)
  · exact It.name (a := 97) (t := [97]) (by decide) (by decide) (by decide) hg hh 1 (by decide)
  · exact It.sign1 (a := 61) (by decide) (by decide) (by decide) (by decide) hg ⟨c, u, e, sgn_gap (by decide) h2, .inl (by decide)⟩
  · exact It.sign1 (a := 59) (by decide) (by decide) (by decide) (by decide) hg ⟨c, u, e, sgn_gap (by decide) h2, .inl (by decide)⟩
theorem jw_bytes : ∀ a, a < 15 → (jwC.getD a ⟨#[]⟩).data.toList = encs (wJ a) ∧ (encs (wJ a)).length ≤ 19 ∧ (∀ r ∈ wJ a, goodR r = true) := by decide
theorem jg_bytes : ∀ b, b < 5 → (jgC.getD b ⟨#[]⟩).data.toList = encs (jg.getD b []) ∧ (encs (jg.getD b [])).length ≤ 9 ∧ (∀ r ∈ jg.getD b [], goodR r = true) := by decide
theorem gJ_ok (a b : Nat) (hb : b < 5) : (encs (gJ a b)).length ≤ 9 ∧ (∀ r ∈ gJ a b, goodR r = true) := by
  unfold gJ
  split
  · exact ⟨by decide, by decide⟩
  · exact (jg_bytes b hb).2

/-- The k-th word's number; the k-th gap's. -/
def aJ (l : List Int) (k : Nat) : Nat := ((l.getD k 0) % 15).toNat
def bJ (y : List Int) (k : Nat) : Nat := if k < y.length then ((y.getD k 0) % 5).toNat else 0
theorem aJ_lt (l : List Int) (k : Nat) : aJ l k < 15 := by unfold aJ; omega
theorem bJ_lt (y : List Int) (k : Nat) : bJ y k < 5 := by unfold bJ; split <;> omega
def itsJ (l y : List Int) (n : Nat) : List It := (List.range n).map fun k => itJ (aJ l k) (bJ y k)
def txJ (l : List Int) (n : Nat) : List ByteArray := (List.range n).map fun k => jwC.getD (aJ l k) ⟨#[]⟩
theorem itsJ_length (l y : List Int) (n : Nat) : (itsJ l y n).length = n := by simp [itsJ]
theorem txJ_length (l : List Int) (n : Nat) : (txJ l n).length = n := by simp [txJ]
theorem itsJ_succ (l y : List Int) (n : Nat) : itsJ l y (n + 1) = itsJ l y n ++ [itJ (aJ l n) (bJ y n)] := by simp [itsJ, List.range_succ]
theorem txJ_succ (l : List Int) (n : Nat) : txJ l (n + 1) = txJ l n ++ [jwC.getD (aJ l n) ⟨#[]⟩] := by simp [txJ, List.range_succ]
theorem catJ_succ (l y : List Int) (n : Nat) : encs (catI (itsJ l y (n + 1))) = encs (catI (itsJ l y n)) ++ (encs (wJ (aJ l n)) ++ encs (gJ (aJ l n) (bJ y n))) := by
  rw [itsJ_succ, catI_append, encs_append]
  simp [catI, itJ, encs_append]
theorem catJ_len (l y : List Int) : ∀ n, (encs (catI (itsJ l y n))).length ≤ 28 * n
  | 0 => by simp [itsJ, catI, encs]
  | n + 1 => by
    have h1 := catJ_len l y n
    have h2 := (jw_bytes _ (aJ_lt l n)).2.1
    have h3 := (gJ_ok (aJ l n) _ (bJ_lt y n)).1
    rw [catJ_succ, List.length_append, List.length_append]
    omega
theorem catJ_good (l y : List Int) : ∀ n, ∀ r ∈ catI (itsJ l y n), goodR r = true
  | 0, r, hr => by simp [itsJ, catI] at hr
  | n + 1, r, hr => by
    rw [itsJ_succ, catI_append] at hr
    rcases List.mem_append.1 hr with hr | hr
    · exact catJ_good l y n r hr
    · simp only [catI, itJ, List.append_nil] at hr
      rcases List.mem_append.1 hr with hr | hr
      · exact (jw_bytes _ (aJ_lt l n)).2.2 r hr
      · exact (gJ_ok _ _ (bJ_lt y n)).2 r hr
theorem itsJ_good (l y : List Int) (n : Nat) : ∀ x ∈ itsJ l y n, x.Good := fun x hx => by
  obtain ⟨k, _, rfl⟩ := List.mem_map.1 hx
  exact itJ_good _ _ (aJ_lt l k) (bJ_lt y k)
/-- The tokens of n words. -/
def tksJ (l y : List Int) (n : Nat) : List Tk := tkI (catI (itsJ l y n)).length 0 (itsJ l y n) ++ [⟨0, (catI (itsJ l y n)).length, [], 0⟩]
theorem lexJ (l y : List Int) (n : Nat) (S : ByteArray) (hS : S.data.toList = encs (catI (itsJ l y n))) : LexIs S (tksJ l y n) none :=
  lexIs_encs hS (catJ_good l y n) fun hok => lx_all hok _ (itsJ_good l y n) rfl
theorem tksJ_length (l y : List Int) (n : Nat) : (tksJ l y n).length = n + 1 := by simp [tksJ, tkI_length, itsJ_length]
theorem tksJ_text (l y : List Int) (n k : Nat) (hk : k < n) : ((tksJ l y n)[k]'(by rw [tksJ_length]; omega)).text = (jwC.getD (aJ l k) ⟨#[]⟩).data.toList := by
  have h1 : k < (tkI (catI (itsJ l y n)).length 0 (itsJ l y n)).length := by rw [tkI_length, itsJ_length]; exact hk
  have h2 := tkI_text (catI (itsJ l y n)).length 0 (itsJ l y n) k (by rw [itsJ_length]; exact hk)
  have h3 : (tksJ l y n)[k]'(by rw [tksJ_length]; omega) = (tkI (catI (itsJ l y n)).length 0 (itsJ l y n))[k] := List.getElem_append_left h1
  rw [h3, h2, (jw_bytes _ (aJ_lt l k)).1]
  simp [itsJ, itJ]
theorem tksJ_end (l y : List Int) (n : Nat) : ((tksJ l y n)[n]'(by rw [tksJ_length]; omega)).kind = 0 := by
  have h1 : (tkI (catI (itsJ l y n)).length 0 (itsJ l y n)).length = n := by rw [tkI_length, itsJ_length]
  have h3 : (tksJ l y n)[n]'(by rw [tksJ_length]; omega) = ⟨0, (catI (itsJ l y n)).length, [], 0⟩ := by
    unfold tksJ
    rw [List.getElem_append_right (by omega)]
    simp
  rw [h3]
theorem txJ_get (l : List Int) (n k : Nat) (hk : k < n) : (txJ l n)[k]'(by rw [txJ_length]; exact hk) = jwC.getD (aJ l k) ⟨#[]⟩ := by simp [txJ]
end Go.Proofs.YtndagbmcdpafjaaDoor
