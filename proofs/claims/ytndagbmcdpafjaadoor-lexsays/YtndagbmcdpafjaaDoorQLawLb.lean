/-
  Texts with something amiss behind some names, as plain lists. Conditions: none.
-/
import Derived.Test.YtndagbmcdpafjaaDoorQLxJ
namespace Go.Proofs.YtndagbmcdpafjaaDoor
open Go.Shelf Go.RowKit Go.Lib

theorem rd_runebad {R : List Nat} {i a : Nat} {r : List Nat} (h : skp (R.drop i) = a :: r) (h0 : a ≠ 0) (hl : letB (a : Int) = false) (hg : isDig a = false) (hs : sgn a (r.headD 0) = 0) :
    rd R i = .bad 4 (R.length - (a :: r).length) := by
  obtain ⟨h1, h2, h3⟩ := sk_at h
  have ha := at0_drop h1
  have h4 : R.drop (sk R i + 1) = r := by rw [← List.drop_drop, h1]; rfl
  have ha2 : at0 R (sk R i + 1) = r.headD 0 := by
    cases hr : r with
    | nil => rw [hr] at h4; rw [at0_ge (by have := congrArg List.length h4; simp at this; omega)]; rfl
    | cons b u => rw [hr] at h4; exact at0_drop h4
  unfold rd rdAt signAt
  rw [ha, ha2, if_neg h0, if_neg (by simp [hl]), if_neg (by simp [hg]), hs, if_pos rfl, h2]
theorem rd_namelong {R : List Nat} {i a : Nat} {t r : List Nat} (h : skp (R.drop i) = (a :: t) ++ r) (hl : letB (a : Int) = true) (ht : ∀ x ∈ t, inNm x = true) (hr : ∀ x, r.head? = some x → inNm x = false) (h24 : 24 < (encs (a :: t)).length) :
    rd R i = .bad 2 (R.length - ((a :: t) ++ r).length) := by
  obtain ⟨h1, h2, h3⟩ := sk_at h
  have hw : ∀ x ∈ a :: t, inNm x = true := fun x hx => by
    rcases List.mem_cons.1 hx with rfl | hx
    · exact let_in hl
    · exact ht x hx
  have ha := at0_drop h1
  have hb := bh_word h1 hw hr
  have hc := cut_word h1
  unfold rd rdAt nameAt
  rw [ha, if_neg (let_pos hl), if_pos hl, hb, hc, if_pos h24, h2]
def itX : It := ⟨[120], [32], 1, 0⟩
theorem itX_good : itX.Good := It.name (a := 120) (t := []) (by decide) (by decide) (by decide) (Gap.blank (by decide) Gap.nil) ⟨32, [], rfl, by decide⟩ 1 (by decide)
def itsX (n : Nat) : List It := List.replicate n itX
theorem catX_len : ∀ n, (catI (itsX n)).length = 2 * n
  | 0 => rfl
  | n + 1 => by
    have := catX_len n
    show ([120] ++ ([32] ++ catI (itsX n))).length = _
    simp [this]
    omega
theorem tkX_get (N z : Nat) : ∀ (n j : Nat), j < n → (tkI N z (itsX n))[j]? = some ⟨1, N - 2 * (n - j) - z, [120], 0⟩
  | n + 1, 0, _ => by
    have e : ([120] ++ ([32] ++ catI (itsX n))).length = 2 * (n + 1) := catX_len (n + 1)
    show some (Tk.mk 1 (N - ([120] ++ ([32] ++ catI (itsX n))).length - z) (encs [120]) 0) = some ⟨1, N - 2 * (n + 1 - 0) - z, [120], 0⟩
    rw [e]
    rfl
  | n + 1, j + 1, h => by
    have := tkX_get N z n j (by omega)
    show (tkI N z (itsX n))[j]? = _
    rw [this, show n + 1 - (j + 1) = n - j by omega]
theorem catX_good : ∀ n, ∀ r ∈ catI (itsX n), goodR r = true
  | 0, r, hr => by cases hr
  | n + 1, r, hr => by
    have : r ∈ [120] ++ ([32] ++ catI (itsX n)) := hr
    rcases List.mem_append.1 this with h | h
    · simp at h; subst h; decide
    · rcases List.mem_append.1 h with h | h
      · simp at h; subst h; decide
      · exact catX_good n r h
theorem catX_succ (n : Nat) : encs (catI (itsX (n + 1))) = encs (catI (itsX n)) ++ [120, 32] := by
  suffices catI (itsX (n + 1)) = catI (itsX n) ++ [120, 32] by rw [this, encs_append]; rfl
  induction n with
  | zero => rfl
  | succ n ih =>
    show [120] ++ ([32] ++ catI (itsX (n + 1))) = ([120] ++ ([32] ++ catI (itsX n))) ++ [120, 32]
    rw [ih]
    simp
/-- What is amiss. -/
def bdR : List (List Nat) := [[65], [36], [95, 97], [233], [91], [33, 61], List.replicate 25 97]
def bdC : List (List UInt8) := [[65], [36], [95, 97], [195, 169], [91], [33, 61], List.replicate 25 97]
def bdE (k : Nat) : Nat := if k = 6 then 2 else 4
theorem bd_bytes : ∀ k, k < 7 → bdC.getD k [] = encs (bdR.getD k []) ∧ (∀ r ∈ bdR.getD k [], goodR r = true) ∧ (bdC.getD k []).length ≤ 25 := by decide
theorem lx_bd {R : List Nat} (k : Nat) (hk : k < 7) (j : Nat) (h : skp (R.drop j) = skp (bdR.getD k [] ++ [32, 121])) : lx R j = ([], some (bdE k, R.length - (bdR.getD k [] ++ [32, 121]).length)) := by
  refine lx_bad ?_
  rcases (by omega : k = 0 ∨ k = 1 ∨ k = 2 ∨ k = 3 ∨ k = 4 ∨ k = 5 ∨ k = 6) with rfl | rfl | rfl | rfl | rfl | rfl | rfl
  · exact rd_runebad (a := 65) (r := [32, 121]) (h.trans (stop_of (by decide) (.inl (by decide)))) (by decide) (by decide) (by decide) (by decide)
  · exact rd_runebad (a := 36) (r := [32, 121]) (h.trans (stop_of (by decide) (.inl (by decide)))) (by decide) (by decide) (by decide) (by decide)
  · exact rd_runebad (a := 95) (r := [97, 32, 121]) (h.trans (stop_of (by decide) (.inl (by decide)))) (by decide) (by decide) (by decide) (by decide)
  · exact rd_runebad (a := 233) (r := [32, 121]) (h.trans (stop_of (by decide) (.inl (by decide)))) (by decide) (by decide) (by decide) (by decide)
  · exact rd_runebad (a := 91) (r := [32, 121]) (h.trans (stop_of (by decide) (.inl (by decide)))) (by decide) (by decide) (by decide) (by decide)
  · exact rd_runebad (a := 33) (r := [61, 32, 121]) (h.trans (stop_of (by decide) (.inl (by decide)))) (by decide) (by decide) (by decide) (by decide)
  · exact rd_namelong (a := 97) (t := List.replicate 24 97) (r := [32, 121]) (h.trans (stop_of (by decide) (.inl (by decide)))) (by decide) (by decide) (by intro x hx; simp at hx; subst hx; decide) (by decide)
/-- n names, then what is amiss. -/
def bxR (n k : Nat) : List Nat := catI (itsX n) ++ (bdR.getD k [] ++ [32, 121])
theorem lexX (n k : Nat) (hk : k < 7) (S : ByteArray) (hS : S.data.toList = encs (bxR n k)) : LexIs S (tkI (bxR n k).length (bdR.getD k [] ++ [32, 121]).length (itsX n)) (some (bdE k, 2 * n)) := by
  refine lexIs_encs hS (fun r hr => ?_) fun hok => ?_
  · unfold bxR at hr
    rcases List.mem_append.1 hr with h | h
    · exact catX_good n r h
    · rcases List.mem_append.1 h with h | h
      · exact (bd_bytes k hk).2.1 r h
      · have : ∀ r ∈ [32, 121], goodR r = true := by decide
        exact this r h
  · have hl : (bxR n k).length - (bdR.getD k [] ++ [32, 121]).length = 2 * n := by
      unfold bxR
      rw [List.length_append, catX_len]
      omega
    have := lx_items hok (bdR.getD k [] ++ [32, 121]) [] (some (bdE k, 2 * n)) (fun j hj hs => by rw [lx_bd k hk j hs, hl]) (itsX n) (fun x hx => by rw [List.eq_of_mem_replicate hx]; exact itX_good) 0 (Nat.zero_le _) rfl
    rw [List.append_nil] at this
    exact this
theorem tksX_get (n k j : Nat) (hj : j < n) : (tkI (bxR n k).length (bdR.getD k [] ++ [32, 121]).length (itsX n))[j]? = some ⟨1, 2 * j, [120], 0⟩ := by
  rw [tkX_get _ _ n j hj]
  have : (bxR n k).length - 2 * (n - j) - (bdR.getD k [] ++ [32, 121]).length = 2 * j := by
    unfold bxR
    rw [List.length_append, catX_len]
    omega
  rw [this]
end Go.Proofs.YtndagbmcdpafjaaDoor
