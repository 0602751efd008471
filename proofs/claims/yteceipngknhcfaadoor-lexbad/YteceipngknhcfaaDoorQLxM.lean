/-
  Tokens put one behind the other with gaps between, as plain lists. Conditions: none.
-/
import Derived.Test.YteceipngknhcfaaDoorQLxL
namespace Go.Proofs.YteceipngknhcfaaDoor
open Go.Shelf Go.RowKit Go.Lib

/-- A rune that any text may have. -/
def goodR (r : Nat) : Bool := decide (r ≤ 1114111) && decide (r < 55296 ∨ 57343 < r) && !ctlB (r : Int) && decide (r ≠ 65533)
theorem goodR_ok {r : Nat} (h : goodR r = true) : okR r ∧ ctlB (r : Int) = false ∧ r ≠ 65533 := by
  unfold goodR at h
  simp only [Bool.and_eq_true, decide_eq_true_eq, Bool.not_eq_true'] at h
  exact ⟨⟨h.1.1.1, h.1.1.2⟩, h.1.2, h.2⟩
theorem pcs_encs : ∀ (R : List Nat), (∀ r ∈ R, goodR r = true) → (∀ d ∈ pcs (encs R), badD d = false) ∧ (pcs (encs R)).map (·.1) = R
  | [], _ => by rw [encs_nil, pcs_nil]; exact ⟨fun d hd => (by cases hd), rfl⟩
  | r :: t, h => by
    obtain ⟨h1, h2, h3⟩ := goodR_ok (h r (by simp))
    obtain ⟨i1, i2⟩ := pcs_encs t (fun x hx => h x (List.mem_cons_of_mem _ hx))
    obtain ⟨m, hm⟩ := pcs_enc (r : Int) (by omega) (by have := h1.1; omega) (by have := h1.2; omega) (encs t)
    rw [encode_encB r h1] at hm
    rw [encs_cons, hm]
    refine ⟨fun d hd => ?_, ?_⟩
    · rcases List.mem_cons.1 hd with rfl | hd
      · unfold badD
        rw [Bool.or_eq_false_iff]
        exact ⟨by simpa using h2, by simp [h3]⟩
      · exact i1 d hd
    · rw [List.map_cons, i2]
      rfl
theorem lexIs_encs {S : ByteArray} {R : List Nat} {l : List Tk} {f : Option (Nat × Nat)} (hS : S.data.toList = encs R) (hR : ∀ r ∈ R, goodR r = true) (h : okRs R → lx R 0 = (l, f)) : LexIs S l f := by
  obtain ⟨h1, h2⟩ := pcs_encs R hR
  have hn : noBad S := fun d hd => h1 d (by rw [← hS]; exact hd)
  have hr : rns S.data.toList = R := by unfold rns; rw [hS]; exact h2
  have hok := hn.rns.1
  rw [hr] at hok
  exact .inl ⟨hn, by rw [hr, h hok]⟩

/-- A token's runes, the gap behind it, its kind and number. -/
structure It where
  w : List Nat
  g : List Nat
  k : Nat
  n : Nat
/-- A gap: it is skipped. -/
def Gap (g : List Nat) : Prop := ∀ r, skp (g ++ r) = skp r
structure It.Good (x : It) : Prop where
  kind : x.k ≠ 0
  gap : Gap x.g
  stop : ∀ r, skp (x.w ++ (x.g ++ r)) = x.w ++ (x.g ++ r)
  reads : ∀ (R : List Nat) (i : Nat) (r : List Nat), skp (R.drop i) = x.w ++ (x.g ++ r) → rd R i = .tok ⟨x.k, R.length - (x.w ++ (x.g ++ r)).length, encs x.w, x.n⟩ (R.length - (x.g ++ r).length) ∧ R.drop (R.length - (x.g ++ r).length) = x.g ++ r
def catI : List It → List Nat
  | [] => []
  | x :: t => x.w ++ (x.g ++ catI t)
/-- Their tokens in a text of N runes, z of which come behind them. -/
def tkI (N z : Nat) : List It → List Tk
  | [] => []
  | x :: t => ⟨x.k, N - (x.w ++ (x.g ++ catI t)).length - z, encs x.w, x.n⟩ :: tkI N z t
theorem tkI_length (N z : Nat) : ∀ (l : List It), (tkI N z l).length = l.length
  | [] => rfl
  | x :: t => by simp [tkI, tkI_length N z t]
theorem lx_items {R : List Nat} (hok : okRs R) (tail : List Nat) (lt : List Tk) (ft : Option (Nat × Nat)) (hE : ∀ j, j ≤ R.length → skp (R.drop j) = skp tail → lx R j = (lt, ft)) :
    ∀ (l : List It), (∀ x ∈ l, x.Good) → ∀ i, i ≤ R.length → skp (R.drop i) = skp (catI l ++ tail) → lx R i = (tkI R.length tail.length l ++ lt, ft)
  | [], _, i, hi, h => hE i hi h
  | x :: t, hg, i, hi, h => by
    have hx := hg x (by simp)
    have e : catI (x :: t) ++ tail = x.w ++ (x.g ++ (catI t ++ tail)) := by simp [catI]
    rw [e, hx.stop] at h
    obtain ⟨h1, h2⟩ := hx.reads R i _ h
    have h3 := lx_items hok tail lt ft hE t (fun y hy => hg y (List.mem_cons_of_mem _ hy)) (R.length - (x.g ++ (catI t ++ tail)).length) (Nat.sub_le _ _) (by rw [h2, hx.gap])
    rw [lx_more hok hi h1 hx.kind, h3]
    have el : R.length - (x.w ++ (x.g ++ (catI t ++ tail))).length = R.length - (x.w ++ (x.g ++ catI t)).length - tail.length := by simp; omega
    rw [el]
    rfl
/-- Tokens alone. -/
theorem lx_all {R : List Nat} (hok : okRs R) (l : List It) (hg : ∀ x ∈ l, x.Good) (h : R = catI l) : lx R 0 = (tkI R.length 0 l ++ [⟨0, R.length, [], 0⟩], none) :=
  lx_items hok [] _ none (fun j hj hs => by rw [skp_nil] at hs; exact lx_last hs) l hg 0 (Nat.zero_le _) (by rw [List.append_nil, ← h]; rfl)

theorem Gap.blank {b : Nat} {g : List Nat} (hb : blaB (b : Int) = true) (hg : Gap g) : Gap (b :: g) := fun r => by rw [List.cons_append, skp_bla _ hb, hg r]
theorem Gap.nil : Gap [] := fun _ => rfl
theorem Gap.remark {m g : List Nat} (hm : ∀ x ∈ m, noNl x = true) (hg : Gap g) : Gap (45 :: 45 :: (m ++ 10 :: g)) := fun r => by
  rw [List.cons_append, skp_rem (by decide) rfl (by simp)]
  have e : (45 :: (45 :: (m ++ 10 :: g) ++ r)).dropWhile noNl = 10 :: (g ++ r) := by
    have h1 : ∀ (q : List Nat), (∀ x ∈ q, noNl x = true) → (q ++ 10 :: (g ++ r)).dropWhile noNl = 10 :: (g ++ r) := fun q hq => by
      induction q with
      | nil => rfl
      | cons a q ih => rw [List.cons_append, List.dropWhile_cons_of_pos (hq a (by simp)), ih fun x hx => hq x (List.mem_cons_of_mem _ hx)]
    have := h1 (45 :: 45 :: m) (fun x hx => by
      simp at hx
      rcases hx with rfl | hx
      · decide
      · exact hm x hx)
    simpa using this
  rw [e, skp_bla _ (by decide), hg r]
theorem head_gap {g r : List Nat} {p : Nat → Bool} (h : ∃ b t, g = b :: t ∧ p b = false) : ∀ x, (g ++ r).head? = some x → p x = false := by
  obtain ⟨b, t, rfl, hb⟩ := h
  intro x hx
  simp at hx
  rw [← hx]
  exact hb
theorem stop_of {a : Nat} {t : List Nat} (hb : blaB (a : Int) = false) (h : a ≠ 45 ∨ t.head? ≠ some 45) : skp (a :: t) = a :: t :=
  skp_stop hb fun h2 => by
    rcases h with h | h
    · exact h h2.1
    · exact h h2.2
theorem let_bla {a : Nat} (h : letB (a : Int) = true) : blaB (a : Int) = false ∧ a ≠ 45 := by
  unfold letB at h
  have := of_decide_eq_true h
  exact ⟨by simp [blaB]; omega, by omega⟩
theorem dig_bla {a : Nat} (h : isDig a = true) : blaB (a : Int) = false ∧ a ≠ 45 := by
  unfold isDig digB at h
  have := of_decide_eq_true h
  exact ⟨by simp [blaB]; omega, by omega⟩
theorem It.name {a : Nat} {t g : List Nat} (hl : letB (a : Int) = true) (ht : ∀ x ∈ t, inNm x = true) (h24 : (encs (a :: t)).length ≤ 24) (hg : Gap g) (hh : ∃ b u, g = b :: u ∧ inNm b = false) (k : Nat) (hk : k = if encs (a :: t) ∈ kws then 2 else 1) :
    (It.mk (a :: t) g k 0).Good :=
  ⟨by rw [hk]; split <;> simp, hg, fun r => stop_of (let_bla hl).1 (.inl (let_bla hl).2), fun R i r h => by rw [hk]; exact rd_name h hl ht (head_gap hh) h24⟩
theorem It.num {a v : Nat} {t g : List Nat} (hw : ∀ x ∈ a :: t, isDig x = true) (hv : numB (encs (a :: t)) = some v) (hg : Gap g) (hh : ∃ b u, g = b :: u ∧ inNm b = false) :
    (It.mk (a :: t) g 3 v).Good :=
  ⟨by simp, hg, fun r => stop_of (dig_bla (hw a (by simp))).1 (.inl (dig_bla (hw a (by simp))).2), fun R i r h => rd_num h hw (head_gap hh) hv⟩
/-- A sign of one rune, behind which another one stands that makes no longer sign of it. -/
theorem It.sign1 {a : Nat} {g : List Nat} (h0 : a ≠ 0) (hl : letB (a : Int) = false) (hd : isDig a = false) (hb : blaB (a : Int) = false) (hg : Gap g) (hh : ∃ b u, g = b :: u ∧ sgn a b = 1 ∧ (a ≠ 45 ∨ b ≠ 45)) : (It.mk [a] g 4 0).Good :=
  ⟨by simp, hg, fun r => by
    obtain ⟨b, u, rfl, _, h2⟩ := hh
    exact stop_of hb (by simpa using h2), fun R i r h => by
    obtain ⟨b, u, rfl, h1, _⟩ := hh
    exact rd_sign h h0 hl hd h1⟩
theorem It.sign2 {a b : Nat} {g : List Nat} (h0 : a ≠ 0) (hl : letB (a : Int) = false) (hd : isDig a = false) (hb : blaB (a : Int) = false) (hg : Gap g) (h2 : sgn a b = 2) (hne : a ≠ 45 ∨ b ≠ 45) : (It.mk [a, b] g 4 0).Good :=
  ⟨by simp, hg, fun r => stop_of hb (by simpa using hne), fun R i r h => rd_sign h h0 hl hd h2⟩
end Go.Proofs.YteceipngknhcfaaDoor
