/-
  The walk of DiskKeeps. Conditions: each theorem's own premises.
-/
import Derived.Test.YtgombgkfocpacaaDoorDkRef
namespace Go.Proofs.YtgombgkfocpacaaDoor
open Go.RowKit Go.Maps

theorem Ints.below {w w' : World} {A : Option Addr} {l : List Int} (h : Ints w w.heap.size A l) (hB : Below w.heap.size w w') : Ints w' w.heap.size A l :=
  h.fr ((Fr.refl [] w).belows hB (Nat.le_refl _)) (Nat.le_refl _) (by simp)
theorem insP_last {i : Int} {b : List UInt8} : ∀ {p : Pend}, (∀ x ∈ p, x.1 < i) → insP i b p = p ++ [(i, b)]
  | [], _ => rfl
  | x :: r, h => by
    have hx := h x (List.mem_cons_self ..)
    unfold insP
    rw [if_neg (by omega), if_neg (by omega), insP_last fun y hy => h y (List.mem_cons_of_mem _ hy)]
    rfl
/-- The sectors from a on, n of them, all of one content. -/
def runP (a n : Nat) (b : List UInt8) : Pend := (List.range' a n).map fun (i : Nat) => ((i : Int), b)
theorem runP_succ (n : Nat) (b : List UInt8) : insP (n : Int) b (runP 0 n b) = runP 0 (n + 1) b := by
  rw [insP_last]
  · unfold runP
    rw [List.range'_1_concat]
    simp
  · intro x hx
    obtain ⟨i, hi, rfl⟩ := List.mem_map.1 hx
    have := List.mem_range'_1.1 hi
    show (i : Int) < n
    omega
theorem crash_run (b : List UInt8) (j : Nat) : ∀ (n a : Nat) (K : List Sec) (zs : List Int), a + n ≤ K.length → (crashK K (runP a n b) zs).getD j none = if a ≤ j ∧ j < a + n ∧ pk (zs.drop (j - a)) = true then some b else K.getD j none
  | 0, a, K, zs, _ => by
    rw [if_neg (by omega)]
    rfl
  | n + 1, a, K, zs, h => by
    have e : runP a (n + 1) b = ((a : Int), b) :: runP (a + 1) n b := by unfold runP; rw [List.range'_succ]; rfl
    rw [e]
    show (crashK (if pk zs then K.set (a : Int).toNat (some b) else K) (runP (a + 1) n b) zs.tail).getD j none = _
    rw [crash_run b j n (a + 1) _ _ (by split <;> (try rw [List.length_set]) <;> omega)]
    have et : ∀ i, zs.tail.drop i = zs.drop (i + 1) := fun i => by rw [List.drop_tail]
    by_cases h1 : a = j
    · subst h1
      rw [if_neg (by omega)]
      simp only [Nat.sub_self, List.drop_zero, Int.toNat_natCast]
      by_cases hp : pk zs = true
      · rw [if_pos hp, if_pos ⟨Nat.le_refl _, by omega, hp⟩]
        simp [List.getD, List.getElem?_set_self (show a < K.length by omega)]
      · rw [if_neg hp, if_neg (fun h => hp h.2.2)]
    · have hK : (if pk zs then K.set (a : Int).toNat (some b) else K).getD j none = K.getD j none := by
        split
        · simp [List.getD, List.getElem?_set_ne h1]
        · rfl
      rw [hK, et]
      by_cases h2 : a + 1 ≤ j
      · have e3 : j - (a + 1) + 1 = j - a := by omega
        rw [e3]
        congr 1
        simp only [eq_iff_iff]
        constructor
        · rintro ⟨x, y, z⟩; exact ⟨by omega, by omega, z⟩
        · rintro ⟨x, y, z⟩; exact ⟨by omega, by omega, z⟩
      · rw [if_neg (by omega), if_neg (by omega)]

/-- Behind k writes of the first content. -/
def KpA (k : Nat) (l : List UInt8) (s : DS) : Prop := s.kept = List.replicate 16 none ∧ s.calls = (k : Int) ∧ s.armed = 0 ∧ s.down = false ∧ ∀ i : Nat, getP (i : Int) s.pend = if i % 2 = 0 ∧ i / 2 < k then some l else none
/-- Behind the flush. -/
def KpB (l : List UInt8) (K : List Sec) : Prop := K.length = 16 ∧ ∀ i : Nat, i < 16 → K.getD i none = if i % 2 = 0 then some l else none
/-- Behind k writes of the second. -/
def KpC (k : Nat) (l1 l2 : List UInt8) (s : DS) : Prop := KpB l1 s.kept ∧ s.calls = 9 + (k : Int) ∧ s.armed = 0 ∧ s.down = false ∧ s.pend = runP 0 k l2

theorem kpA_step {k : Nat} {l : List UInt8} {s : DS} {n : Nat} (ho : OkP n s.pend) (h : KpA k l s) : KpA (k + 1) l { s with pend := insP (2 * (k : Int)) l s.pend, calls := s.calls + 1, armed := powA s.armed, down := false } := by
  obtain ⟨h1, h2, h3, h4, h5⟩ := h
  refine ⟨h1, by rw [h2]; push_cast; rfl, by show powA s.armed = 0; rw [h3]; rfl, rfl, fun i => ?_⟩
  rw [getP_ins ho.1, h5]
  by_cases e : 2 * (k : Int) = i
  · rw [if_pos e, if_pos (by omega)]
  · rw [if_neg e]
    congr 1
    simp only [eq_iff_iff]
    omega
theorem kpB_of {l : List UInt8} {s : DS} (h : KpA 8 l s) : KpB l (flushK s) := by
  obtain ⟨h1, _, _, _, h5⟩ := h
  refine ⟨by simp [flushK, h1], fun i hi => ?_⟩
  have : (flushK s).getD i none = lookD s i := by simp [flushK, List.getD, h1, hi]
  rw [this]
  unfold lookD
  rw [h5, h1]
  by_cases e : i % 2 = 0
  · rw [if_pos ⟨e, by omega⟩, if_pos e]
  · rw [if_neg (by omega), if_neg e]
    have : (List.replicate 16 (none : Sec))[i]? = some none := by rw [List.getElem?_replicate, if_pos hi]
    show (List.replicate 16 (none : Sec)).getD i none = none
    rw [List.getD, this]
    rfl
theorem kpC_step {k : Nat} {l1 l2 : List UInt8} {s : DS} (h : KpC k l1 l2 s) : KpC (k + 1) l1 l2 { s with pend := insP (k : Int) l2 s.pend, calls := s.calls + 1, armed := powA s.armed, down := false } := by
  obtain ⟨h1, h2, h3, h4, h5⟩ := h
  refine ⟨h1, by show s.calls + 1 = _; rw [h2]; push_cast; omega, by show powA s.armed = 0; rw [h3]; rfl, rfl, ?_⟩
  show insP (k : Int) l2 s.pend = _
  rw [h5, runP_succ]
theorem kp_look {l1 l2 : List UInt8} {s : DS} {zs : List Int} (h : KpC 16 l1 l2 s) (i : Nat) (hi : i < 16) : lookD (crashD s zs) i = if pk (zs.drop i) then some l2 else if i % 2 = 0 then some l1 else none := by
  obtain ⟨⟨hl, h1⟩, _, _, _, h5⟩ := h
  show (crashK s.kept s.pend zs).getD i none = _
  rw [h5, crash_run l2 i 16 0 s.kept zs (by omega), h1 i hi]
  simp only [Nat.sub_zero]
  by_cases hp : pk (zs.drop i) = true
  · rw [if_pos ⟨by omega, by omega, hp⟩, if_pos hp]
  · rw [if_neg (fun h => hp h.2.2), if_neg hp]

/-- Where the loops stand. -/
def KpR1 (w : World) (g f m : Nat) (l : List UInt8) (i : Value) (wr : World) : Prop := ∃ k s, k ≤ 8 ∧ i = .int .i64 ((k : Nat) : Int) ∧ Dk wr g f m s ∧ KpA k l s ∧ Below w.heap.size w wr
def KpR2 (w : World) (g f m : Nat) (l1 l2 : List UInt8) (i : Value) (wr : World) : Prop := ∃ k s, k ≤ 16 ∧ i = .int .i64 ((k : Nat) : Int) ∧ Dk wr g f m s ∧ KpC k l1 l2 s ∧ Below w.heap.size w wr
def KpR3 (w : World) (g f m : Nat) (s : DS) (i : Value) (wr : World) : Prop := ∃ k : Nat, k ≤ 16 ∧ i = .int .i64 (k : Int) ∧ Dk wr g f m s ∧ Below w.heap.size w wr
end Go.Proofs.YtgombgkfocpacaaDoor
