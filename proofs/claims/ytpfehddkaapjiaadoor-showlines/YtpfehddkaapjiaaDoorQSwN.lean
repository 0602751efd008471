/-
  How many lines ShowLines' text has, and how it begins. Conditions: each theorem's own premises.
-/
import Derived.Test.YtpfehddkaapjiaaDoorQSwM
import Derived.Test.YtpfehddkaapjiaaDoorQSwG
namespace Go.Proofs.YtpfehddkaapjiaaDoor
open Go.RowKit Go.Lib Go.Shelf

theorem dec_no10 : ∀ (m n : Nat), n ≤ m → (Lib.decDigits n).count 10 = 0 := by
  have one : ∀ r, r < 10 → ([UInt8.ofNat (48 + r)] : List UInt8).count 10 = 0 := by decide
  intro m
  induction m with
  | zero => intro n h; rw [Lib.decDigits_one (by omega)]; exact one n (by omega)
  | succ m ih =>
    intro n h
    by_cases h10 : n < 10
    · rw [Lib.decDigits_one h10]; exact one n h10
    · rw [show Lib.decDigits n = Lib.decDigits (n / 10) ++ [UInt8.ofNat (48 + n % 10)] by rw [Lib.decDigits, dif_neg h10], List.count_append, ih (n / 10) (by omega), one (n % 10) (by omega)]
theorem jnL_cnt (sep : List UInt8) (hs : sep.count 10 = 0) : ∀ (l : List (List UInt8)) (i : Nat), (∀ t ∈ l, t.count 10 = 0) → (jnL sep i l).count 10 = 0
  | [], _, _ => rfl
  | t :: r, i, h => by
    rw [jnL, List.count_append, List.count_append, h t (by simp), jnL_cnt sep hs r (i + 1) fun x hx => h x (by simp [hx])]
    split
    · rfl
    · rw [hs]
theorem jnL_len (sep : List UInt8) (m : Nat) : ∀ (l : List (List UInt8)) (i : Nat), (∀ t ∈ l, t.length ≤ m) → (jnL sep i l).length ≤ l.length * (m + sep.length)
  | [], _, _ => by simp [jnL]
  | t :: r, i, h => by
    have h1 := h t (by simp)
    have h2 := jnL_len sep m r (i + 1) fun x hx => h x (by simp [hx])
    rw [jnL, List.length_append, List.length_append, List.length_cons, Nat.succ_mul]
    split
    · simp only [List.length_nil]; omega
    · omega
theorem eqs_cnt : ∀ l : List Qp, (∀ q ∈ l, EqOk q) → ((l.map eqT).flatten).count 10 = l.length ∧ ((l.map eqT).flatten).length ≤ 40 * l.length
  | [], _ => by simp
  | q :: r, h => by
    obtain ⟨h1, h2⟩ := eqs_cnt r fun x hx => h x (by simp [hx])
    obtain ⟨bb, j, hq, hj⟩ := h q (by simp)
    subst hq
    have hs : (Ex.mk 1 0 (j : Int) [] none 0 []).shw = Lib.decDigits j := by rw [Ex.shw_eq]; exact Lib.itoa_nonneg j
    have hl := dec_size (n := j) (by omega)
    have hc := dec_no10 j j (Nat.le_refl _)
    rw [List.map_cons, List.flatten_cons, List.count_append, List.length_append, h1]
    refine ⟨?_, ?_⟩
    · simp only [eqT, Qp.shw, hs, List.count_append, hc, List.length_cons]
      simp
      omega
    · simp only [eqT, Qp.shw, hs, List.length_append, List.length_cons, List.length_nil]
      omega
/-- The statement's node. -/
def ndS (k : Nat) (A3 : Option Addr) (c3 : Nat) (ls : List Dc) (A4 : Option Addr) (c4 : Nat) (qs : List Qp) : Nd := ⟨[102], none, 0, [], some ⟨k, 0, none⟩, 1, [dX], A3, c3, ls, A4, c4, qs⟩
theorem ls_cnt (ls : List Dc) (h : ∀ d ∈ ls, LcOk d) : (dsT ls).count 10 = 0 ∧ (dsT ls).length ≤ ls.length * 40 := by
  have one : ∀ d ∈ ls, d.shw.count 10 = 0 ∧ d.shw.length ≤ 38 := fun d hd => by
    obtain ⟨s, rfl, h1, h2⟩ := h d hd
    refine ⟨?_, ?_⟩
    · simp [Dc.shw, tyT, List.count_append, h1]
    · simp [Dc.shw, tyT]; omega
  refine ⟨jnL_cnt _ (by decide) _ _ fun t ht => ?_, ?_⟩
  · obtain ⟨d, hd, rfl⟩ := List.mem_map.1 ht
    exact (one d hd).1
  · have := jnL_len [59, 32] 38 (ls.map Dc.shw) 0 fun t ht => by
      obtain ⟨d, hd, rfl⟩ := List.mem_map.1 ht
      exact (one d hd).2
    rw [List.length_map] at this
    exact this
theorem ndS_cnt (k : Nat) (A3 : Option Addr) (c3 : Nat) (ls : List Dc) (A4 : Option Addr) (c4 : Nat) (qs : List Qp) (h3 : ∀ d ∈ ls, LcOk d) (h4 : ∀ q ∈ qs, EqOk q) :
    (ndS k A3 c3 ls A4 c4 qs).shw.count 10 = 3 + qs.length + (if ls = [] then 0 else 1) ∧ (ndS k A3 c3 ls A4 c4 qs).shw.length ≤ 100 + ls.length * 40 + 40 * qs.length ∧
    ∃ r, (ndS k A3 c3 ls A4 c4 qs).shw = [110, 111, 100, 101, 32, 102, 40, 41, 32, 114, 101, 116, 117, 114, 110, 115, 32, 40, 120, 58, 32, 105, 110, 116, 41] ++ r := by
  obtain ⟨a1, a2⟩ := ls_cnt ls h3
  obtain ⟨b1, b2⟩ := eqs_cnt qs h4
  have hd : dsT [dX] = [120, 58, 32, 105, 110, 116] := by decide
  have hn : dsT [] = [] := rfl
  have hsh : (ndS k A3 c3 ls A4 c4 qs).shw = [110, 111, 100, 101, 32, 102, 40, 41, 32, 114, 101, 116, 117, 114, 110, 115, 32, 40, 120, 58, 32, 105, 110, 116, 41] ++ ([59, 10] ++ (if ls = [] then [] else [118, 97, 114, 32] ++ dsT ls ++ [59, 10]) ++ [108, 101, 116, 10] ++ (qs.map eqT).flatten ++ [116, 101, 108, 10]) := by
    have h : (ndS k A3 c3 ls A4 c4 qs).shw = ([110, 111, 100, 101, 32] ++ ([102] ++ [40])) ++ dsT [] ++ [41, 32, 114, 101, 116, 117, 114, 110, 115, 32, 40] ++ dsT [dX] ++ [41, 59, 10] ++ (if ls = [] then [] else [118, 97, 114, 32] ++ dsT ls ++ [59, 10]) ++ [108, 101, 116, 10] ++ (qs.map eqT).flatten ++ [116, 101, 108, 10] := rfl
    rw [h, hd, hn]
    simp only [List.append_assoc, List.cons_append, List.nil_append]
  rw [hsh]
  by_cases h0 : ls = []
  · rw [if_pos h0, if_pos h0]
    refine ⟨?_, ?_, _, rfl⟩
    · simp only [List.count_append, b1]; simp; omega
    · simp only [List.length_append, List.length_cons, List.length_nil]; omega
  · rw [if_neg h0, if_neg h0]
    refine ⟨?_, ?_, _, rfl⟩
    · simp only [List.count_append, a1, b1]; simp
    · simp only [List.length_append, List.length_cons, List.length_nil]; omega
theorem ShM.lies {w W : World} {k : Nat} {v3 v4 : Value} {ls : List Dc} {qs : List Qp} (h : ShM w W k v3 v4 ls qs) :
    ∃ A3 c3 A4 c4, v3 = .slice A3 ls.length c3 ∧ v4 = .slice A4 qs.length c4 ∧ (ndS k A3 c3 ls A4 c4 qs).Lies W W.heap.size := by
  obtain ⟨A3, c3, e3, s3⟩ := h.o3.sl
  obtain ⟨A4, c4, e4, s4⟩ := h.o4.sl
  refine ⟨A3, c3, A4, c4, e3, e4, ⟨⟨Sl.nil _ _ _, fun _ h => by cases h⟩, ⟨⟨⟨Nat.le_refl _, (fun h => by cases h), fun _ => ⟨k, 0, rfl, h.out.lt⟩, by simp [maxLen, ndS]⟩, fun b o e j u hu => ?_⟩, fun d hd => ?_⟩, ⟨s3, fun d hd => ?_⟩, s4, fun q hq => ?_⟩⟩
  · cases e
    rw [Nat.zero_add, h.out.cell j]
    have hu' : ([.int .i64 0, .string { data := #[120] }, .int .i64 1, .slice none 0 0] : List Value)[j]? = some u := hu
    simpa using hu'
  · obtain rfl : d = dX := by simpa [ndS] using hd
    exact Sl.nil _ _ _
  · obtain ⟨s, rfl, -, -⟩ := h.lok d hd
    exact Sl.nil _ _ _
  · obtain ⟨bb, j, rfl, hj⟩ := h.qok q hq
    obtain ⟨g1, g2, g3, g4, g5⟩ := h.qx _ hq
    exact ⟨sl_bare _ _ _ _ _ _, g1, g5, by simp [Ex.rng, rngL]; omega⟩
end Go.Proofs.YtpfehddkaapjiaaDoor
