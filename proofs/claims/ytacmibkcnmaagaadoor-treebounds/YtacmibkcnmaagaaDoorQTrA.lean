/-
  Expressions as plain data, with where their parts lie: how deep, how many, their parts, the names they use. Conditions: none.
-/
import Derived.Test.YtacmibkcnmaagaaDoorQTxR
namespace Go.Proofs.YtacmibkcnmaagaaDoor
open Go.RowKit Go.Lib

/-- An expression, and where the list of what it has lies. -/
inductive Ex where
  | mk (op pos n : Int) (name : List UInt8) (A : Option Addr) (c : Nat) (l : List Ex)
def Ex.op : Ex → Int | .mk o _ _ _ _ _ _ => o
def Ex.pos : Ex → Int | .mk _ p _ _ _ _ _ => p
def Ex.n : Ex → Int | .mk _ _ n _ _ _ _ => n
def Ex.name : Ex → List UInt8 | .mk _ _ _ s _ _ _ => s
def Ex.A : Ex → Option Addr | .mk _ _ _ _ A _ _ => A
def Ex.c : Ex → Nat | .mk _ _ _ _ _ c _ => c
def Ex.l : Ex → List Ex | .mk _ _ _ _ _ _ l => l
/-- Its cells. -/
def Ex.vals (e : Ex) : List Value := [.int .i64 e.op, .int .i64 e.pos, .int .i64 e.n, .string ⟨e.name.toArray⟩, .slice e.A e.l.length e.c]
def Ex.val (e : Ex) : Value := .agg #[.int .i64 e.op, .int .i64 e.pos, .int .i64 e.n, .string ⟨e.name.toArray⟩, .slice e.A e.l.length e.c]
/-- How expressions lie in a row. -/
def LX : Lie Ex := ⟨34, 5, Ex.vals, fun _ => rfl, fun _ u hu => by
  simp [Ex.vals] at hu
  rcases hu with rfl | rfl | rfl | rfl | rfl <;> rfl⟩
theorem LXat : LieAt Tryd.prog 32 LX := by
  have h : (Tryd.prog.info? 34).map (fun i => (i.zero, i.size, i.bytes)) = some (some (.agg #[.int .i64 0, .int .i64 0, .int .i64 0, .string { data := #[] }, .slice none 0 0]), 5, 64) := by kernel_rfl
  obtain ⟨i0, hi, hz0, hz1, hz2⟩ := info_parts h
  exact ⟨Tryd.underlying32, ⟨i0, _, hi, hz0, hz1, by omega, rfl⟩, by decide⟩

/-- A slice in memory, in a block of a kind: a list's address, what it may hold. -/
structure Hd (K : Nat → Prop) (A : Option Addr) (n c : Nat) : Prop where
  le : n ≤ c
  nil : A = none → c = 0
  at_ : n ≠ 0 → ∃ b o, A = some ⟨b, o, none⟩ ∧ K b
  big : c ≤ maxLen
/-- The cells at an address hold these. -/
def RowAt (W : World) (A : Option Addr) (cs : List Value) : Prop := ∀ b o, A = some ⟨b, o, none⟩ → ∀ j u, cs[j]? = some u → W.cell? ⟨b, o + j, none⟩ = some u
mutual
/-- An expression lies in memory, in blocks of a kind. -/
def Ex.Lies (W : World) (K : Nat → Prop) : Ex → Prop
  | .mk _ _ _ _ A c l => Hd K A l.length c ∧ RowAt W A (LX.cells l) ∧ LiesL W K l
def LiesL (W : World) (K : Nat → Prop) : List Ex → Prop
  | [] => True
  | e :: r => e.Lies W K ∧ LiesL W K r
end
theorem LiesL_iff {W : World} {K : Nat → Prop} : ∀ {l : List Ex}, LiesL W K l ↔ ∀ e ∈ l, e.Lies W K
  | [] => by simp [LiesL]
  | e :: r => by
    have := LiesL_iff (W := W) (K := K) (l := r)
    simp [LiesL, this]
/-- A slice of expressions that lie. -/
structure Xs (W : World) (K : Nat → Prop) (A : Option Addr) (c : Nat) (l : List Ex) : Prop where
  hd : Hd K A l.length c
  row : RowAt W A (LX.cells l)
  all : ∀ e ∈ l, e.Lies W K
theorem Ex.Lies.xs {W : World} {K : Nat → Prop} {e : Ex} (h : e.Lies W K) : Xs W K e.A e.c e.l := by
  obtain ⟨op, pos, n, name, A, c, l⟩ := e
  unfold Ex.Lies at h
  exact ⟨h.1, h.2.1, LiesL_iff.1 h.2.2⟩
theorem Xs.lies {W : World} {K : Nat → Prop} {e : Ex} (h : Xs W K e.A e.c e.l) : e.Lies W K := by
  obtain ⟨op, pos, n, name, A, c, l⟩ := e
  unfold Ex.Lies
  exact ⟨h.hd, h.row, LiesL_iff.2 h.all⟩
theorem Hd.mono {K K' : Nat → Prop} {A : Option Addr} {n c : Nat} (h : Hd K A n c) (hK : ∀ b, K b → K' b) : Hd K' A n c :=
  ⟨h.le, h.nil, fun hn => by obtain ⟨b, o, e, hb⟩ := h.at_ hn; exact ⟨b, o, e, hK b hb⟩, h.big⟩
theorem Ex.ind {P : Ex → Prop} (h : ∀ e : Ex, (∀ x ∈ e.l, P x) → P e) (e : Ex) : P e := by
  refine Ex.rec (motive_1 := P) (motive_2 := fun l => ∀ x ∈ l, P x) ?_ ?_ ?_ e
  · intro op pos n name A c l ih
    exact h _ ih
  · intro x hx; cases hx
  · intro a r ha hr x hx
    rcases List.mem_cons.1 hx with rfl | hx
    · exact ha
    · exact hr x hx
theorem Xs.keep1 {W W' : World} {K K' : Nat → Prop} {A : Option Addr} {c : Nat} {l : List Ex} (h : Xs W K A c l) (hK : ∀ b, K b → K' b) (hk : ∀ p : Addr, K p.block → W'.cell? p = W.cell? p) (ha : ∀ x ∈ l, x.Lies W' K') : Xs W' K' A c l :=
  ⟨h.hd.mono hK, fun b o e j u hu => by
    have hl : l.length ≠ 0 := by
      intro h0
      rw [List.eq_nil_of_length_eq_zero h0] at hu
      simp [Lie.cells] at hu
    obtain ⟨b', o', e', hb⟩ := h.hd.at_ hl
    rw [e] at e'
    cases e'
    exact (hk _ hb).trans (h.row b o e j u hu), ha⟩
theorem Ex.Lies.keep {W W' : World} {K K' : Nat → Prop} (hK : ∀ b, K b → K' b) (hk : ∀ p : Addr, K p.block → W'.cell? p = W.cell? p) (e : Ex) : e.Lies W K → e.Lies W' K' := by
  refine Ex.ind (P := fun e => e.Lies W K → e.Lies W' K') ?_ e
  intro e ih h
  have hx := h.xs
  exact Xs.lies (hx.keep1 hK hk fun x hm => ih x hm (hx.all x hm))
theorem Xs.keep {W W' : World} {K K' : Nat → Prop} {A : Option Addr} {c : Nat} {l : List Ex} (h : Xs W K A c l) (hK : ∀ b, K b → K' b) (hk : ∀ p : Addr, K p.block → W'.cell? p = W.cell? p) : Xs W' K' A c l :=
  h.keep1 hK hk fun x hm => Ex.Lies.keep hK hk x (h.all x hm)
theorem Xs.keepV1 {W W' : World} {K K' : Nat → Prop} {A : Option Addr} {c : Nat} {l : List Ex} (h : Xs W K A c l) (hK : ∀ b, K b → K' b) (hk : ∀ (p : Addr) (v : Value), K p.block → W.cell? p = some v → W'.cell? p = some v) (ha : ∀ x ∈ l, x.Lies W' K') : Xs W' K' A c l :=
  ⟨h.hd.mono hK, fun b o e j u hu => by
    have hl : l.length ≠ 0 := by
      intro h0
      rw [List.eq_nil_of_length_eq_zero h0] at hu
      simp [Lie.cells] at hu
    obtain ⟨b', o', e', hb⟩ := h.hd.at_ hl
    rw [e] at e'
    cases e'
    exact hk _ _ hb (h.row b o e j u hu), ha⟩
theorem Ex.Lies.keepV {W W' : World} {K K' : Nat → Prop} (hK : ∀ b, K b → K' b) (hk : ∀ (p : Addr) (v : Value), K p.block → W.cell? p = some v → W'.cell? p = some v) (e : Ex) : e.Lies W K → e.Lies W' K' := by
  refine Ex.ind (P := fun e => e.Lies W K → e.Lies W' K') ?_ e
  intro e ih h
  have hx := h.xs
  exact Xs.lies (hx.keepV1 hK hk fun x hm => ih x hm (hx.all x hm))
theorem Xs.keepV {W W' : World} {K K' : Nat → Prop} {A : Option Addr} {c : Nat} {l : List Ex} (h : Xs W K A c l) (hK : ∀ b, K b → K' b) (hk : ∀ (p : Addr) (v : Value), K p.block → W.cell? p = some v → W'.cell? p = some v) : Xs W' K' A c l :=
  h.keepV1 hK hk fun x hm => Ex.Lies.keepV hK hk x (h.all x hm)
theorem Ex.Lies.below {W W' : World} {B : Nat} {e : Ex} (h : e.Lies W (· < B)) (hb : Below B W W') : e.Lies W' (· < B) := h.keep (fun _ h => h) (fun _ hp => hb.cell hp) e
theorem Ex.Lies.more {W : World} {B B' : Nat} {e : Ex} (h : e.Lies W (· < B)) (hB : B ≤ B') : e.Lies W (· < B') := h.keep (fun _ h => Nat.lt_of_lt_of_le h hB) (fun _ _ => rfl) e
theorem Xs.below {W W' : World} {B : Nat} {A : Option Addr} {c : Nat} {l : List Ex} (h : Xs W (· < B) A c l) (hb : Below B W W') : Xs W' (· < B) A c l := h.keep (fun _ h => h) (fun _ hp => hb.cell hp)
theorem Xs.more {W : World} {B B' : Nat} {A : Option Addr} {c : Nat} {l : List Ex} (h : Xs W (· < B) A c l) (hB : B ≤ B') : Xs W (· < B') A c l := h.keep (fun _ h => Nat.lt_of_lt_of_le h hB) (fun _ _ => rfl)
theorem Xs.nil (W : World) (K : Nat → Prop) : Xs W K none 0 [] := ⟨⟨Nat.le_refl _, fun _ => rfl, fun h => absurd rfl h, by simp [maxLen]⟩, (fun _ _ h => by cases h), (fun _ h => by cases h)⟩
theorem at_add (b o j : Nat) : (⟨b, o, none⟩ : Addr).add j = ⟨b, o + j, none⟩ := by
  unfold Addr.add
  split
  · rename_i h
    subst h
    rfl
  · rfl
theorem Xs.rw {W : World} {K : Nat → Prop} {A : Option Addr} {c : Nat} {l : List Ex} {B : Nat} (h : Xs W K A c l) (hK : ∀ b, K b → b < B) : Rw LX W B A l :=
  ⟨fun hn => by
    obtain ⟨b, o, rfl, hb⟩ := h.hd.at_ (fun h0 => hn (List.eq_nil_of_length_eq_zero h0))
    exact ⟨_, rfl, hK b hb, fun j u hu => by rw [at_add]; exact h.row b o rfl j u hu⟩⟩
/-- The five cells of the k-th one. -/
theorem Xs.five {W : World} {K : Nat → Prop} {b o c : Nat} {l : List Ex} (h : Xs W K (some ⟨b, o, none⟩) c l) {k : Nat} (hk : k < l.length) :
    W.cell? ⟨b, o + k * 5, none⟩ = some (.int .i64 l[k].op) ∧ W.cell? ⟨b, o + k * 5 + 1, none⟩ = some (.int .i64 l[k].pos) ∧ W.cell? ⟨b, o + k * 5 + 2, none⟩ = some (.int .i64 l[k].n) ∧
    W.cell? ⟨b, o + k * 5 + 3, none⟩ = some (.string ⟨l[k].name.toArray⟩) ∧ W.cell? ⟨b, o + k * 5 + 4, none⟩ = some (.slice l[k].A l[k].l.length l[k].c) := by
  have g : ∀ j u, j < 5 → (LX.enc l[k])[j]? = some u → W.cell? ⟨b, o + k * 5 + j, none⟩ = some u := fun j u hj hu => by
    have h1 := h.row b o rfl (k * 5 + j) u (by rw [← hu]; exact LX.cells_at l k hk j hj)
    rw [← Nat.add_assoc] at h1
    exact h1
  exact ⟨g 0 _ (by omega) rfl, g 1 _ (by omega) rfl, g 2 _ (by omega) rfl, g 3 _ (by omega) rfl, g 4 _ (by omega) rfl⟩

mutual
/-- How deep. -/
def Ex.dep : Ex → Nat | .mk _ _ _ _ _ _ l => depL l + 1
def depL : List Ex → Nat | [] => 0 | e :: r => max e.dep (depL r)
end
mutual
/-- How many parts. -/
def Ex.cnt : Ex → Nat | .mk _ _ _ _ _ _ l => 1 + cntL l
def cntL : List Ex → Nat | [] => 0 | e :: r => e.cnt + cntL r
end
mutual
/-- Its parts, each ahead of what it has. -/
def Ex.parts : Ex → List Ex | .mk op pos n name A c l => .mk op pos n name A c l :: partsL l
def partsL : List Ex → List Ex | [] => [] | e :: r => e.parts ++ partsL r
end
mutual
/-- The same, wherever it lies. -/
def Ex.er : Ex → Ex | .mk op pos n name _ _ l => .mk op pos n name none 0 (erL l)
def erL : List Ex → List Ex | [] => [] | e :: r => e.er :: erL r
end
mutual
/-- Not deeper than so much, names short, few beside one another. -/
def Ex.few : Ex → Nat → Bool
  | .mk _ _ _ name _ _ l, d => match d with
    | 0 => false
    | d + 1 => decide (name.length ≤ 60) && decide (l.length ≤ 8) && fewL l d
def fewL : List Ex → Nat → Bool
  | [], _ => true
  | e :: r, d => e.few d && fewL r d
end
theorem Ex.dep_eq (e : Ex) : e.dep = depL e.l + 1 := by obtain ⟨op, pos, n, name, A, c, l⟩ := e; rfl
theorem Ex.cnt_eq (e : Ex) : e.cnt = 1 + cntL e.l := by obtain ⟨op, pos, n, name, A, c, l⟩ := e; rfl
theorem Ex.parts_eq (e : Ex) : e.parts = e :: partsL e.l := by obtain ⟨op, pos, n, name, A, c, l⟩ := e; rfl
theorem Ex.er_eq (e : Ex) : e.er = .mk e.op e.pos e.n e.name none 0 (erL e.l) := by obtain ⟨op, pos, n, name, A, c, l⟩ := e; rfl
theorem Ex.few_eq (e : Ex) (d : Nat) : e.few (d + 1) = (decide (e.name.length ≤ 60) && decide (e.l.length ≤ 8) && fewL e.l d) := by obtain ⟨op, pos, n, name, A, c, l⟩ := e; rfl
theorem Ex.few_zero (e : Ex) : e.few 0 = false := by obtain ⟨op, pos, n, name, A, c, l⟩ := e; rfl
theorem fewL_iff {d : Nat} : ∀ {l : List Ex}, fewL l d = true ↔ ∀ e ∈ l, e.few d = true
  | [] => by simp [fewL]
  | e :: r => by
    have := fewL_iff (d := d) (l := r)
    simp [fewL, this]
theorem erL_map : ∀ l : List Ex, erL l = l.map Ex.er
  | [] => rfl
  | e :: r => by rw [erL, erL_map r]; rfl
theorem depL_append : ∀ a b : List Ex, depL (a ++ b) = max (depL a) (depL b)
  | [], b => by simp [depL]
  | e :: r, b => by
    have := depL_append r b
    simp only [List.cons_append, depL, this]
    omega
theorem cntL_append : ∀ a b : List Ex, cntL (a ++ b) = cntL a + cntL b
  | [], b => by simp [cntL]
  | e :: r, b => by
    have := cntL_append r b
    simp only [List.cons_append, cntL, this]
    omega
theorem partsL_append : ∀ a b : List Ex, partsL (a ++ b) = partsL a ++ partsL b
  | [], b => by simp [partsL]
  | e :: r, b => by
    have := partsL_append r b
    simp only [List.cons_append, partsL, this, List.append_assoc]
theorem erL_length (l : List Ex) : (erL l).length = l.length := by rw [erL_map, List.length_map]
theorem Ex.er_dep (e : Ex) : e.er.dep = e.dep := by
  refine Ex.ind (P := fun e => e.er.dep = e.dep) ?_ e
  intro e ih
  suffices ∀ l : List Ex, (∀ x ∈ l, x.er.dep = x.dep) → depL (erL l) = depL l by
    rw [Ex.dep_eq e, Ex.er_eq, Ex.dep_eq]
    show depL (erL e.l) + 1 = _
    rw [this _ ih]
  intro l
  induction l with
  | nil => intro _; rfl
  | cons a r ihr =>
    intro h
    rw [erL, depL, depL, h a (by simp), ihr (fun x hx => h x (by simp [hx]))]
theorem Ex.er_cnt (e : Ex) : e.er.cnt = e.cnt := by
  refine Ex.ind (P := fun e => e.er.cnt = e.cnt) ?_ e
  intro e ih
  suffices ∀ l : List Ex, (∀ x ∈ l, x.er.cnt = x.cnt) → cntL (erL l) = cntL l by
    rw [Ex.cnt_eq e, Ex.er_eq, Ex.cnt_eq]
    show 1 + cntL (erL e.l) = _
    rw [this _ ih]
  intro l
  induction l with
  | nil => intro _; rfl
  | cons a r ihr =>
    intro h
    rw [erL, cntL, cntL, h a (by simp), ihr (fun x hx => h x (by simp [hx]))]
theorem Ex.few_dep : ∀ (d : Nat) (e : Ex), e.few d = true → e.dep ≤ d
  | 0, e, h => by rw [Ex.few_zero] at h; cases h
  | d + 1, e, h => by
    rw [Ex.few_eq] at h
    simp only [Bool.and_eq_true, decide_eq_true_eq] at h
    have h2 := fewL_iff.1 h.2
    rw [Ex.dep_eq]
    suffices ∀ l : List Ex, (∀ x ∈ l, x.few d = true) → depL l ≤ d by
      have := this _ h2
      omega
    intro l
    induction l with
    | nil => intro _; simp [depL]
    | cons a r ihr =>
      intro hl
      have h1 := Ex.few_dep d a (hl a (by simp))
      have h3 := ihr (fun x hx => hl x (by simp [hx]))
      rw [depL]
      omega
/-- What it says of those within. -/
theorem Ex.few_in {d : Nat} {e : Ex} (h : e.few (d + 1) = true) : e.name.length ≤ 60 ∧ e.l.length ≤ 8 ∧ ∀ x ∈ e.l, x.few d = true := by
  rw [Ex.few_eq] at h
  simp only [Bool.and_eq_true, decide_eq_true_eq] at h
  exact ⟨h.1.1, h.1.2, fewL_iff.1 h.2⟩
mutual
/-- Lists not longer than so much, everywhere. -/
def Ex.slim (m : Nat) : Ex → Bool | .mk _ _ _ _ _ _ l => decide (l.length ≤ m) && slimL m l
def slimL (m : Nat) : List Ex → Bool | [] => true | e :: r => e.slim m && slimL m r
end
theorem slimL_iff {m : Nat} : ∀ {l : List Ex}, slimL m l = true ↔ ∀ e ∈ l, e.slim m = true
  | [] => by simp [slimL]
  | e :: r => by
    have := slimL_iff (m := m) (l := r)
    simp [slimL, this]
theorem Ex.slim_eq (m : Nat) (e : Ex) : e.slim m = (decide (e.l.length ≤ m) && slimL m e.l) := by obtain ⟨op, pos, n, name, A, c, l⟩ := e; rfl
theorem Ex.slim_in {m : Nat} {e : Ex} (h : e.slim m = true) : e.l.length ≤ m ∧ ∀ x ∈ e.l, x.slim m = true := by
  rw [Ex.slim_eq] at h
  simp only [Bool.and_eq_true, decide_eq_true_eq] at h
  exact ⟨h.1, slimL_iff.1 h.2⟩
theorem Ex.few_slim : ∀ (d : Nat) (e : Ex), e.few d = true → e.slim 8 = true
  | 0, e, h => by rw [Ex.few_zero] at h; cases h
  | d + 1, e, h => by
    obtain ⟨_, h1, h2⟩ := Ex.few_in h
    rw [Ex.slim_eq]
    simp only [Bool.and_eq_true, decide_eq_true_eq]
    exact ⟨h1, slimL_iff.2 fun x hx => Ex.few_slim d x (h2 x hx)⟩
theorem dep_mem {l : List Ex} {e : Ex} (h : e ∈ l) : e.dep ≤ depL l := by
  induction l with
  | nil => cases h
  | cons a r ih =>
    rw [depL]
    rcases List.mem_cons.1 h with rfl | h
    · omega
    · have := ih h
      omega
theorem cnt_mem {l : List Ex} {e : Ex} (h : e ∈ l) : e.cnt ≤ cntL l := by
  induction l with
  | nil => cases h
  | cons a r ih =>
    rw [cntL]
    rcases List.mem_cons.1 h with rfl | h
    · omega
    · have := ih h
      omega
theorem take_succ {l : List Ex} {k : Nat} (h : k < l.length) : l.take (k + 1) = l.take k ++ [l[k]] := by simp
theorem partsL_length : ∀ l : List Ex, (partsL l).length = cntL l := by
  intro l
  have key : ∀ e : Ex, e.parts.length = e.cnt := fun e => by
    refine Ex.ind (P := fun e => e.parts.length = e.cnt) ?_ e
    intro e ih
    suffices ∀ l : List Ex, (∀ x ∈ l, x.parts.length = x.cnt) → (partsL l).length = cntL l by
      rw [Ex.parts_eq, Ex.cnt_eq, List.length_cons, this _ ih]
      omega
    intro l
    induction l with
    | nil => intro _; rfl
    | cons a r ihr =>
      intro h
      rw [partsL, cntL, List.length_append, h a (by simp), ihr (fun x hx => h x (by simp [hx]))]
  induction l with
  | nil => rfl
  | cons a r ih => rw [partsL, cntL, List.length_append, key a, ih]
theorem mem_partsL {l : List Ex} {y : Ex} : y ∈ partsL l ↔ ∃ e ∈ l, y = e ∨ y ∈ partsL e.l := by
  induction l with
  | nil => simp [partsL]
  | cons a r ih => simp [partsL, Ex.parts_eq, ih, or_assoc]
theorem parts_of (e : Ex) : ∀ y : Ex, y = e ∨ y ∈ partsL e.l → y.dep ≤ e.dep ∧ ∀ m, e.slim m = true → y.slim m = true := by
  refine Ex.ind (P := fun e => ∀ y : Ex, y = e ∨ y ∈ partsL e.l → y.dep ≤ e.dep ∧ ∀ m, e.slim m = true → y.slim m = true) ?_ e
  intro e ih y hy
  rcases hy with rfl | hy
  · exact ⟨Nat.le_refl _, fun _ h => h⟩
  · obtain ⟨x, hx, hxy⟩ := mem_partsL.1 hy
    obtain ⟨h1, h2⟩ := ih x hx y hxy
    have := dep_mem hx
    have := Ex.dep_eq e
    exact ⟨by omega, fun m hm => h2 m ((Ex.slim_in hm).2 x hx)⟩
theorem parts_in {l : List Ex} {y : Ex} (h : y ∈ partsL l) : y.dep ≤ depL l ∧ ∀ m, slimL m l = true → y.slim m = true := by
  obtain ⟨e, he, hy⟩ := mem_partsL.1 h
  obtain ⟨h1, h2⟩ := parts_of e y hy
  have := dep_mem he
  exact ⟨by omega, fun m hm => h2 m (slimL_iff.1 hm e he)⟩
theorem parts_sub {l : List Ex} {x y : Ex} (hx : x ∈ l) (hy : y ∈ partsL x.l) : y ∈ partsL l := mem_partsL.2 ⟨x, hx, .inr hy⟩
end Go.Proofs.YtacmibkcnmaagaaDoor
