/-
  Tokens read out of lists that begin with them; the walk of the statements' first. Conditions: each theorem's own premises.
-/
import Derived.Test.YteceipngknhcfaaDoorQLxK
namespace Go.Proofs.YteceipngknhcfaaDoor
open Go.Shelf Go.RowKit Go.Lib

theorem takeWhile_word {p : Nat → Bool} {w r : List Nat} (hw : ∀ x ∈ w, p x = true) (hr : ∀ x, r.head? = some x → p x = false) : (w ++ r).takeWhile p = w := by
  cases r with
  | nil => rw [List.append_nil]; exact takeWhile_all p w hw
  | cons a t => exact takeWhile_stop p w a t hw (hr a rfl)
/-- What is skipped lies behind one; what is read begins there. -/
theorem sk_at {R : List Nat} {i : Nat} {l : List Nat} (h : skp (R.drop i) = l) : R.drop (sk R i) = l ∧ sk R i = R.length - l.length ∧ l.length ≤ R.length := by
  have h1 := sk_drop R i
  rw [h] at h1
  have h2 : l.length ≤ R.length := by
    have := congrArg List.length h1
    rw [List.length_drop] at this
    omega
  refine ⟨h1, ?_, h2⟩
  unfold sk
  rw [h]
theorem at0_drop {R : List Nat} {i a : Nat} {t : List Nat} (h : R.drop i = a :: t) : at0 R i = a := by
  have := congrArg List.head? h
  rw [List.head?_drop] at this
  unfold at0 List.getD
  rw [this]
  rfl
theorem bh_word {p : Nat → Bool} {R : List Nat} {i : Nat} {w r : List Nat} (h : R.drop i = w ++ r) (hw : ∀ x ∈ w, p x = true) (hr : ∀ x, r.head? = some x → p x = false) : bh p R i = i + w.length := by
  unfold bh
  rw [h, takeWhile_word hw hr]
theorem cut_word {R : List Nat} {i : Nat} {w r : List Nat} (h : R.drop i = w ++ r) : cutE R i (i + w.length) = encs w := by
  unfold cutE
  rw [h, Nat.add_sub_cancel_left, List.take_left]
theorem drop_word {R : List Nat} {i : Nat} {w r : List Nat} (h : R.drop i = w ++ r) : R.drop (i + w.length) = r := by
  rw [← List.drop_drop, h, List.drop_left]
theorem let_pos {a : Nat} (h : letB (a : Int) = true) : a ≠ 0 := fun e => by subst e; revert h; decide
theorem let_in {a : Nat} (h : letB (a : Int) = true) : inNm a = true := by simp [inNm, h]
theorem dig_pos {a : Nat} (h : isDig a = true) : a ≠ 0 ∧ letB (a : Int) = false := by
  unfold isDig digB at h
  have := of_decide_eq_true h
  exact ⟨by omega, by simp [letB]; omega⟩
theorem rd_name {R : List Nat} {i a : Nat} {t r : List Nat} (h : skp (R.drop i) = (a :: t) ++ r) (hl : letB (a : Int) = true) (ht : ∀ x ∈ t, inNm x = true) (hr : ∀ x, r.head? = some x → inNm x = false) (h24 : (encs (a :: t)).length ≤ 24) :
    rd R i = .tok ⟨if encs (a :: t) ∈ kws then 2 else 1, R.length - ((a :: t) ++ r).length, encs (a :: t), 0⟩ (R.length - r.length) ∧ R.drop (R.length - r.length) = r := by
  obtain ⟨h1, h2, h3⟩ := sk_at h
  have hw : ∀ x ∈ a :: t, inNm x = true := fun x hx => by
    rcases List.mem_cons.1 hx with rfl | hx
    · exact let_in hl
    · exact ht x hx
  have ha := at0_drop h1
  have hb := bh_word h1 hw hr
  have hc := cut_word h1
  have hd := drop_word h1
  have he : sk R i + (a :: t).length = R.length - r.length := by rw [h2, List.length_append]; rw [List.length_append] at h3; omega
  unfold rd rdAt nameAt
  rw [ha, if_neg (let_pos hl), if_pos hl, hb, hc, if_neg (by omega), he, h2]
  rw [he] at hd
  exact ⟨rfl, hd⟩
theorem rd_num {R : List Nat} {i a v : Nat} {t r : List Nat} (h : skp (R.drop i) = (a :: t) ++ r) (hw : ∀ x ∈ a :: t, isDig x = true) (hr : ∀ x, r.head? = some x → inNm x = false) (hv : numB (encs (a :: t)) = some v) :
    rd R i = .tok ⟨3, R.length - ((a :: t) ++ r).length, encs (a :: t), v⟩ (R.length - r.length) ∧ R.drop (R.length - r.length) = r := by
  obtain ⟨h1, h2, h3⟩ := sk_at h
  have ha := at0_drop h1
  have hr2 : ∀ x, r.head? = some x → isDig x = false := fun x hx => by
    have := hr x hx
    simp [inNm] at this
    exact this.1.2
  have hb := bh_word h1 hw hr2
  have hc := cut_word h1
  have hd := drop_word h1
  have he : sk R i + (a :: t).length = R.length - r.length := by rw [h2, List.length_append]; rw [List.length_append] at h3; omega
  obtain ⟨k1, k2⟩ := dig_pos (hw a (by simp))
  have hin : inNm (at0 R (R.length - r.length)) = false := by
    rw [he] at hd
    cases r with
    | nil => rw [at0_ge (by simp)]; decide
    | cons b u => rw [at0_drop hd]; exact hr b rfl
  unfold rd rdAt numAt
  rw [ha, if_neg k1, if_neg (by simp [k2]), if_pos (hw a (by simp)), hb, hc, hv]
  dsimp only
  rw [he, hin, h2]
  rw [he] at hd
  exact ⟨rfl, hd⟩
theorem rd_sign {R : List Nat} {i a : Nat} {t r : List Nat} (h : skp (R.drop i) = (a :: t) ++ r) (h0 : a ≠ 0) (hl : letB (a : Int) = false) (hg : isDig a = false) (hs : sgn a ((t ++ r).headD 0) = t.length + 1) :
    rd R i = .tok ⟨4, R.length - ((a :: t) ++ r).length, encs (a :: t), 0⟩ (R.length - r.length) ∧ R.drop (R.length - r.length) = r := by
  obtain ⟨h1, h2, h3⟩ := sk_at h
  have ha := at0_drop h1
  have h4 : R.drop (sk R i + 1) = t ++ r := by rw [← List.drop_drop, h1]; rfl
  have ha2 : at0 R (sk R i + 1) = (t ++ r).headD 0 := by
    cases ht : t ++ r with
    | nil => rw [ht] at h4; rw [at0_ge (by have := congrArg List.length h4; simp at this; omega)]; rfl
    | cons b u => rw [ht] at h4; exact at0_drop h4
  have hc := cut_word h1
  have hd := drop_word h1
  have he : sk R i + (a :: t).length = R.length - r.length := by rw [h2, List.length_append]; rw [List.length_append] at h3; omega
  unfold rd rdAt signAt
  rw [ha, ha2, if_neg h0, if_neg (by simp [hl]), if_neg (by simp [hg]), hs, if_neg (by omega)]
  rw [show t.length + 1 = (a :: t).length from rfl, hc, he, h2]
  rw [he] at hd
  exact ⟨rfl, hd⟩
theorem rd_end {R : List Nat} {i : Nat} (h : skp (R.drop i) = []) : rd R i = .tok ⟨0, R.length, [], 0⟩ R.length := by
  obtain ⟨h1, h2, _⟩ := sk_at h
  have h3 : sk R i = R.length := h2
  unfold rd rdAt
  rw [h3, if_pos (at0_ge (Nat.le_refl _))]
/-- A token more. -/
theorem lx_tok {R : List Nat} (hR : okRs R) {i : Nat} {t : Tk} {r : List Nat} (hi : i ≤ R.length) (h : rd R i = .tok t (R.length - r.length)) (h0 : t.kind ≠ 0) : lx R i = (t :: (lx R (R.length - r.length)).1, (lx R (R.length - r.length)).2) := lx_more hR hi h h0
theorem lx_last {R : List Nat} {i : Nat} (h : skp (R.drop i) = []) : lx R i = ([⟨0, R.length, [], 0⟩], none) := lx_end (rd_end h) rfl

/-- ASCII runes. -/
theorem rns_ascii : ∀ (l : List UInt8), (∀ c ∈ l, c.toNat < 128) → rns l = l.map (·.toNat)
  | [], _ => by unfold rns; rw [pcs_nil]; rfl
  | c :: t, h => by
    have := rns_ascii t (fun x hx => h x (List.mem_cons_of_mem _ hx))
    unfold rns at this ⊢
    rw [pcs_ascii _ (h c (by simp)), List.map_cons, this]
    rfl
theorem noBad_of {s : ByteArray} (h : ∀ d ∈ pcs s.data.toList, badD d = false) : noBad s := h
/-- The chapter's example. -/
def exS : ByteArray := ⟨#[97, 60, 61, 49]⟩
theorem exRns : rns exS.data.toList = [97, 60, 61, 49] := by rw [rns_ascii _ (by decide)]; rfl
theorem exPcs : pcs exS.data.toList = [(97, 1), (60, 1), (61, 1), (49, 1)] := by
  show pcs [97, 60, 61, 49] = _
  rw [pcs_ascii _ (by decide), pcs_ascii _ (by decide), pcs_ascii _ (by decide), pcs_ascii _ (by decide), pcs_nil]
  rfl
theorem exBad : noBad exS := fun d hd => by
  rw [exPcs] at hd
  simp at hd
  rcases hd with rfl | rfl | rfl | rfl <;> decide
def exL : List Tk := [⟨1, 0, [97], 0⟩, ⟨4, 1, [60, 61], 0⟩, ⟨3, 3, [49], 1⟩, ⟨0, 4, [], 0⟩]
theorem exLx : LexIs exS exL none := by
  refine .inl ⟨exBad, ?_⟩
  have hok := exBad.rns.1
  rw [exRns] at hok ⊢
  have k1 := rd_name (R := [97, 60, 61, 49]) (i := 0) (a := 97) (t := []) (r := [60, 61, 49]) (by exact skp_stop (by decide) (by simp)) (by decide) (by simp) (by intro x hx; simp at hx; subst hx; decide) (by decide)
  have k2 := rd_sign (R := [97, 60, 61, 49]) (i := 1) (a := 60) (t := [61]) (r := [49]) (by exact skp_stop (by decide) (by simp)) (by decide) (by decide) (by decide) (by decide)
  have k3 := rd_num (R := [97, 60, 61, 49]) (i := 3) (a := 49) (t := []) (r := []) (v := 1) (by exact skp_stop (by decide) (by simp)) (by intro x hx; simp at hx; subst hx; decide) (by simp) (by decide)
  rw [lx_tok hok (by decide) k1.1 (by decide)]
  rw [show ([97, 60, 61, 49] : List Nat).length - [60, 61, 49].length = 1 from rfl]
  rw [lx_tok hok (by decide) k2.1 (by decide)]
  rw [show ([97, 60, 61, 49] : List Nat).length - [49].length = 3 from rfl]
  rw [lx_tok hok (by decide) k3.1 (by decide)]
  rw [show ([97, 60, 61, 49] : List Nat).length - ([] : List Nat).length = 4 from rfl]
  rw [lx_last (by exact skp_nil)]
  rfl

/-- Where a row that has something lies, and its cells. -/
theorem Ow.at_ {α : Type} {L : Lie α} {w : World} {base : Nat} {v : Value} {l : List α} (h : Ow L w base v l) (hl : l ≠ []) : ∃ g cap, v = .slice (some ⟨g, 0, none⟩) l.length cap ∧ base ≤ g ∧ g < w.heap.size ∧ l.length ≤ cap ∧
    ∀ (k : Nat) (hk : k < l.length) (j : Nat) (u : Value), (L.enc l[k])[j]? = some u → w.cell? ⟨g, k * L.n + j, none⟩ = some u := by
  rcases h.form with ⟨_, e⟩ | ⟨g, cap, cs, rfl, hb, hg, h1, h2, h3, h4⟩
  · exact absurd e hl
  · refine ⟨g, cap, rfl, hb, hg.lt, h1, fun k hk j u hu => ?_⟩
    have hj : j < L.n := by rw [← L.len l[k]]; exact (List.getElem?_eq_some_iff.1 hu).1
    have hc := L.cells_at l k hk j hj
    rw [hu, ← h4, List.getElem?_take] at hc
    split at hc
    · rw [hg.cell]; simpa using hc
    · cases hc

set_option maxRecDepth 100000 in
set_option maxHeartbeats 1000000 in
theorem lfirst_any (er : Nat → Addr) (w : World) (hE : Lerr w er) : Calls Tryd.prog 10 #[] w (RetN w true) := by
  have HA := Lib.hid (all_any exS (by decide) er exL none exLx (by decide) w hE)
  clear hE
  go_enter Tryd.func10, Tryd.ntmps10
  go_wp2_with fail
  refine HA.out.mono ?_
  rintro e w1 ⟨hB, v, rfl, hO⟩
  obtain ⟨g, c, rfl, -, -, hlc, hcell⟩ := hO.at_ (by decide)
  have h1 : w1.cell? ⟨g, 6, none⟩ = some (.string ⟨#[60, 61]⟩) := hcell 1 (by decide) 2 _ rfl
  have h2 : w1.cell? ⟨g, 11, none⟩ = some (.int .i64 1) := hcell 2 (by decide) 3 _ rfl
  clear hcell hO
  rw [show exL.length = 4 from rfl] at hlc ⊢
  go_wp2
  go_ret
  exact ⟨rfl, hB⟩
end Go.Proofs.YteceipngknhcfaaDoor
