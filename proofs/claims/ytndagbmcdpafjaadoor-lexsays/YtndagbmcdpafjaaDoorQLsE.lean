/-
  The walk of the document's Cut over a text that may be. Conditions: its own premises.
-/
import Derived.Test.YtndagbmcdpafjaaDoorQLsA
import Derived.Test.YtndagbmcdpafjaaDoorQLxJ
namespace Go.Proofs.YtndagbmcdpafjaaDoor
open Go.Shelf Go.RowKit Go.Lib

theorem pcs_encl : ∀ (n : Nat) (l : List UInt8), l.length ≤ n → (∀ d ∈ pcs l, badD d = false) → ∀ d ∈ pcs l, (encB d.1).length = d.2
  | 0, l, hl, _, d, hd => by
    obtain rfl := List.eq_nil_of_length_eq_zero (Nat.le_zero.1 hl)
    rw [pcs_nil] at hd
    cases hd
  | n + 1, l, hl, hb, d, hd => by
    by_cases h0 : l = []
    · subst h0
      rw [pcs_nil] at hd
      cases hd
    · have h1 := dec_pos l
      have h2 := dec_le l h0
      rw [pcs_cons l h0] at hb hd
      have hd0 := hb (dec l) (by simp)
      have hnd : dec l ≠ (65533, 1) := fun e => by rw [e] at hd0; simp [badD] at hd0
      obtain ⟨-, -, k3⟩ := dec_encB l h0 hnd
      rcases List.mem_cons.1 hd with rfl | hd
      · exact k3
      · exact pcs_encl n (l.drop (dec l).2) (by simp; omega) (fun x hx => hb x (by simp [hx])) d hd
theorem wid_enc : ∀ (L : List (Nat × Nat)), (∀ d ∈ L, (encB d.1).length = d.2) → (encs (L.map (·.1))).length = wid L
  | [], _ => rfl
  | d :: L, h => by
    have := wid_enc L (fun x hx => h x (List.mem_cons_of_mem _ hx))
    rw [List.map_cons, encs_cons, List.length_append, this, h d (by simp)]
    simp [wid]
theorem wid_rns {s : ByteArray} (h : noBad s) (k : Nat) : wid ((pcs s.data.toList).take k) = (encs ((rns s.data.toList).take k)).length := by
  have := wid_enc ((pcs s.data.toList).take k) (fun d hd => pcs_encl _ _ (Nat.le_refl _) h d (List.mem_of_mem_take hd))
  rw [← this, List.map_take]
  rfl
theorem cut_bytes {s : ByteArray} (h : noBad s) (a b : Nat) (hab : a ≤ b) :
    s.extract (wid ((pcs s.data.toList).take a)) (wid ((pcs s.data.toList).take b)) = ⟨(cutE (rns s.data.toList) a b).toArray⟩ := by
  have he := (noBad.rns h).2
  rw [wid_rns h, wid_rns h]
  obtain ⟨R, hR⟩ : ∃ R, R = rns s.data.toList := ⟨_, rfl⟩
  rw [← hR] at he ⊢
  have e1 : R = R.take a ++ ((R.drop a).take (b - a) ++ R.drop b) := by
    have : R.drop b = (R.drop a).drop (b - a) := by rw [List.drop_drop, show a + (b - a) = b by omega]
    rw [this, List.take_append_drop, List.take_append_drop]
  have e2 : R.take b = R.take a ++ (R.drop a).take (b - a) := by
    have : b = a + (b - a) := by omega
    conv => lhs; rw [this]
    rw [List.take_add]
  apply ByteArray.ext
  apply Array.ext'
  rw [ByteArray.data_extract, Array.toList_extract, ← he]
  unfold cutE
  have e3 : encs R = encs (R.take a) ++ (encs ((R.drop a).take (b - a)) ++ encs (R.drop b)) := by
    conv => lhs; rw [e1]
    rw [encs_append, encs_append]
  rw [e2, encs_append, List.length_append, e3]
  rw [List.extract_eq_take_drop, List.drop_left, Nat.add_sub_cancel_left, List.take_left]
theorem pies_from : ∀ (i : Nat) (L : List (Nat × Nat)) (k : Nat) (hk : k < (pies i L).length) (hk2 : k < L.length), (pies i L)[k] = (i + wid (L.take k), L[k])
  | i, d :: t, 0, _, _ => by simp [pies, wid]
  | i, d :: t, k + 1, h1, h2 => by
    have := pies_from (i + d.2) t k (by simpa [pies] using h1) (by simpa using h2)
    simp only [pies, List.getElem_cons_succ, List.take_succ_cons]
    rw [this]
    simp [wid]
    omega

set_option maxRecDepth 100000 in
set_option maxHeartbeats 2000000 in
theorem rcut_any (s : ByteArray) (a b : Nat) (w : World) (hs : s.size ≤ 4096) (hn : noBad s) (hab : a < b) (hb : b ≤ (rns s.data.toList).length) :
    Calls Tryd.prog 29 #[.string s, .int .i64 (a : Int), .int .i64 (b : Int)] w fun e w' => e = .returned (.string ⟨(cutE (rns s.data.toList) a b).toArray⟩) ∧ Below w.heap.size w w' := by
  have hbl : b ≤ (pcs s.data.toList).length := by unfold rns at hb; simpa using hb
  have hpl := pcs_len s.data.toList
  have hC := cut_bytes hn a b (by omega)
  have hHi : wid ((pcs s.data.toList).take b) ≤ s.size := by
    rw [wid_rns hn]
    have h1 := congrArg List.length (noBad.rns hn).2
    have h2 : (encs ((rns s.data.toList).take b)).length ≤ (encs (rns s.data.toList)).length := by
      conv => rhs; rw [← List.take_append_drop b (rns s.data.toList), encs_append, List.length_append]
      omega
    simp at h1
    omega
  have hLo : wid ((pcs s.data.toList).take a) ≤ wid ((pcs s.data.toList).take b) := by
    have : (pcs s.data.toList).take b = (pcs s.data.toList).take a ++ ((pcs s.data.toList).drop a).take (b - a) := by
      have : b = a + (b - a) := by omega
      conv => lhs; rw [this]
      rw [List.take_add]
    rw [this, wid_append]
    omega
  have HP := Lib.hid (pieces_any s w (by omega))
  have HF := Lib.hid (pies_from 0 (pcs s.data.toList))
  have hln := pies_length 0 (pcs s.data.toList)
  have hne : pies 0 (pcs s.data.toList) ≠ [] := fun e => by rw [e] at hln; simp at hln; omega
  have hw : ∀ k (hk : k < (pcs s.data.toList).length), wid ((pcs s.data.toList).take (k + 1)) = wid ((pcs s.data.toList).take k) + (pcs s.data.toList)[k].2 := fun k hk => by
    rw [List.take_succ_eq_append_getElem hk, wid_append]
    simp [wid]
  have hto := hw (b - 1) (by omega)
  rw [show b - 1 + 1 = b by omega] at hto
  clear hw
  go_enter Tryd.func29, Tryd.ntmps29
  go_wp2_with fail
  refine HP.out.mono ?_
  rintro e w1 ⟨v, rfl, hO, hB⟩
  obtain ⟨g, c, rfl, -, -, hlc, hcell⟩ := hO.at_ hne
  have k1 := hcell a (by omega) 1 (.int .i64 (((pies 0 (pcs s.data.toList))[a]'(by omega)).1 : Int)) rfl
  have k2 := hcell (b - 1) (by omega) 2 (.int .i64 ((((pies 0 (pcs s.data.toList))[b - 1]'(by omega)).1 + ((pies 0 (pcs s.data.toList))[b - 1]'(by omega)).2.2 : Nat) : Int)) rfl
  rw [HF.out a (by omega) (by omega)] at k1
  rw [HF.out (b - 1) (by omega) (by omega)] at k2
  dsimp only at k1 k2
  rw [Nat.zero_add] at k1 k2
  rw [← hto] at k2
  obtain ⟨lo, hlo⟩ : ∃ lo, lo = wid ((pcs s.data.toList).take a) := ⟨_, rfl⟩
  obtain ⟨hi, hhi⟩ : ∃ hi, hi = wid ((pcs s.data.toList).take b) := ⟨_, rfl⟩
  obtain ⟨n, hnn⟩ : ∃ n, n = (pies 0 (pcs s.data.toList)).length := ⟨_, rfl⟩
  rw [← hlo, ← hhi] at hC
  rw [← hlo] at k1 hLo
  rw [← hhi] at k2 hLo hHi
  rw [← hnn] at hlc hln ⊢
  have HB := Lib.hid hB
  have HC := Lib.hid hC
  have hbn : b ≤ n := by omega
  have hn4 : n ≤ 4096 := by simp at hpl; omega
  have k1' : w1.cell? ⟨g, a * 4 + 1, none⟩ = some (.int .i64 (lo : Int)) := k1
  have k2' : w1.cell? ⟨g, (b - 1) * 4 + 2, none⟩ = some (.int .i64 (hi : Int)) := k2
  have hb1 : ((b : Int) - 1).toNat = b - 1 := by omega
  have hmin : min (b : Int) (n : Int) = (b : Int) := by omega
  have han : a < n := by omega
  have hbn1 : b - 1 < n := by omega
  have hbn2 : (b : Int) - 1 < (n : Int) := by omega
  have hbn3 : (0 : Int) ≤ (b : Int) - 1 := by omega
  have hb96 : b ≤ 4096 := by omega
  clear hcell hO hne hln hnn hto hlo hhi hB hC k1 k2 hb hbl hpl hn
  go_wp2
  go_region
  go_wp2
  go_ret
  exact ⟨by rw [HC.out]; rfl, HB.out.drew⟩
end Go.Proofs.YtndagbmcdpafjaaDoor
