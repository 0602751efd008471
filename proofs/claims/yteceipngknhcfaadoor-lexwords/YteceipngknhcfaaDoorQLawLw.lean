/-
  The walk of LexWords. Conditions: the listed errors lie as they are laid.
-/
import Derived.Test.YteceipngknhcfaaDoorQLxL
import Derived.Test.YteceipngknhcfaaDoorQTxS
import Derived.Test.YteceipngknhcfaaDoorQLxFr
namespace Go.Proofs.YteceipngknhcfaaDoor
open Go.Shelf Go.RowKit Go.Lib

set_option maxRecDepth 100000 in
set_option maxHeartbeats 400000 in
theorem sameTexts_any (g1 g2 len c1 c2 : Nat) (l : List ByteArray) (w : World) (hl : len = l.length) (hz : len ≤ 1000) (h1 : Txs w (some ⟨g1, 0, none⟩) l) (h2 : Txs w (some ⟨g2, 0, none⟩) l) :
    Calls Tryd.prog 16 #[.slice (some ⟨g1, 0, none⟩) len c1, .slice (some ⟨g2, 0, none⟩) len c2] w (RetN w true) := by
  have HL := Lib.hid hl
  have H1 := Lib.hid h1
  have H2 := Lib.hid h2
  clear hl h1 h2
  go_enter Tryd.func16, Tryd.ntmps16
  go_wp2
  go_loopw [5] (fun i wr => ∃ k : Nat, k ≤ len ∧ i = .int .i64 (k : Int) ∧ Txs wr (some ⟨g1, 0, none⟩) l ∧ Txs wr (some ⟨g2, 0, none⟩) l ∧ Below w.heap.size w wr) (fun i _ => len - (RowKit.intOf i).toNat)
  case atStart => exact ⟨0, by omega, rfl, H1.out, H2.out, Below.refl _ _⟩
  case round =>
    obtain ⟨k, hk, rfl, ht1, ht2, hB⟩ := hrel
    have HB := Lib.hid hB.drew
    have HT1 := Lib.hid (show Txs wr.drew (some ⟨g1, 0, none⟩) l from ⟨ht1.here⟩)
    have HT2 := Lib.hid (show Txs wr.drew (some ⟨g2, 0, none⟩) l from ⟨ht2.here⟩)
    by_cases hp : k < len
    · have hkl : k < l.length := by have := HL.out; omega
      obtain ⟨ad1, e1, hc1⟩ := ht1.here k l[k] (List.getElem?_eq_getElem hkl)
      obtain ⟨ad2, e2, hc2⟩ := ht2.here k l[k] (List.getElem?_eq_getElem hkl)
      cases e1
      cases e2
      rw [lit_add] at hc1 hc2
      obtain ⟨t, ht⟩ : ∃ t, t = l[k] := ⟨_, rfl⟩
      rw [← ht] at hc1 hc2
      clear ht ht1 ht2 hB
      have he : (t.toList == t.toList) = true := beq_iff_eq.2 rfl
      go_wp2
      go_region
      all_goals
        go_wp2
        go_roundw
        case rel => exact ⟨k + 1, by omega, by go_num, HT1.out, HT2.out, HB.out⟩
        case measure => simp [RowKit.intOf]; omega
    · have HB0 := Lib.hid hB
      clear hB ht1 ht2
      go_wp2
      go_ret
      exact ⟨rfl, HB0.out⟩

theorem words_txs (w : World) : Txs (w.alloc (.cells (wordC.map Value.string).toArray 9)) (some ⟨w.heap.size, 0, none⟩) wordC := ⟨fun k t ht => ⟨_, rfl, by
  rw [lit_add]
  unfold World.cell?
  show (match (w.alloc (.cells (wordC.map Value.string).toArray 9)).heap[w.heap.size]? with | some (.cells c _ _) => c[k]? | _ => none) = _
  rw [World.alloc_heap_new]
  simp [ht]⟩⟩
theorem Txs.below {w w' : World} {A : Option Addr} {l : List ByteArray} (h : Txs w A l) (hb : Below w.heap.size w w') : Txs w' A l := ⟨fun k s hs => by
  obtain ⟨ad, e, hc⟩ := h.here k s hs
  exact ⟨ad, e, (hb.cell (World.block_lt_of_cell? w _ hc)).trans hc⟩⟩

theorem kws_head : ∀ k ∈ kws, k ≠ [] ∧ k.length ≤ 24 ∧ (k.headD 0).toNat < 128 ∧ letB ((k.headD 0).toNat : Int) = true := by decide
set_option maxRecDepth 100000 in
set_option maxHeartbeats 1000000 in
theorem rname_kw (s : ByteArray) (w : World) (h : kwB s = true) : Calls Tryd.prog 21 #[.string s] w (RetN w false) := by
  obtain ⟨h1, h2, h3, h4⟩ := kws_head _ (of_decide_eq_true h)
  obtain ⟨a, t, hat⟩ : ∃ a t, s.data.toList = a :: t := by
    cases hs : s.data.toList with
    | nil => exact absurd hs h1
    | cons a t => exact ⟨a, t, rfl⟩
  rw [hat] at h2 h3 h4
  have hsz : s.size = t.length + 1 := by have := congrArg List.length hat; simpa using this
  have h1s : 1 ≤ s.size := by omega
  have h24 : s.size ≤ 24 := by simp at h2; omega
  have HP := Lib.hid (pieces_any s w (by omega))
  have hp : pcs s.data.toList = (a.toNat, 1) :: pcs t := by rw [hat, pcs_ascii _ (by simpa using h3)]
  have HPc := Lib.hid hp
  have HLt := Lib.hid (fun W => rletter_any (a.toNat : Int) W)
  rw [show letB (a.toNat : Int) = true by simpa using h4] at HLt
  have HIs := Lib.hid (fun W => is_any s W)
  rw [h] at HIs
  have hne : s.toList.isEmpty = false := by
    rw [ByteArray.toList_eq, hat]
    rfl
  clear h h1 h2 h3 h4 hat hsz hp
  go_enter Tryd.func21, Tryd.ntmps21
  go_wp2_with fail
  refine HP.out.mono ?_
  rintro e w1 ⟨v, rfl, hO, hB⟩
  have hne2 : pies 0 (pcs s.data.toList) ≠ [] := by rw [HPc.out]; simp [pies]
  obtain ⟨g, c, rfl, -, -, hlc, hcell⟩ := hO.at_ hne2
  have hc0 : w1.cell? ⟨g, 0, none⟩ = some (.int .i32 (a.toNat : Int)) := by
    have := hcell 0 (List.length_pos_iff.2 hne2) 0 (.int .i32 (a.toNat : Int)) (by simp only [HPc.out]; rfl)
    simpa using this
  have hlen : 0 < (pies 0 (pcs s.data.toList)).length := List.length_pos_iff.2 hne2
  obtain ⟨n, hn⟩ : ∃ n, n = (pies 0 (pcs s.data.toList)).length := ⟨_, rfl⟩
  rw [← hn] at hlen hlc ⊢
  have HB := Lib.hid hB
  clear hcell hne2 hO hn hB
  go_wp2_with fail
  refine (HLt.out _).mono ?_
  rintro e w2 ⟨rfl, rfl⟩
  go_wp2_with fail
  refine (HIs.out _).mono ?_
  rintro e w2 ⟨rfl, hB2⟩
  go_wp2
  go_ret
  exact ⟨rfl, HB.out.trans (hB2.mono HB.out.size)⟩

set_option maxRecDepth 100000 in
set_option maxHeartbeats 1000000 in
theorem lexWords_raw (s : ByteArray) (w : World) (er : Nat → Addr) (hE : Lerr w er) : Calls Tryd.prog 4 #[.string s] w (RetYes w) := by
  have HF := Lib.hid (lfirst_any er w hE)
  clear hE
  by_cases h40 : 40 < s.size
  · go_enter Tryd.func4, Tryd.ntmps4
    go_wp2_with fail
    refine HF.out.mono ?_
    rintro e w1 ⟨rfl, hB1⟩
    go_wp2
    go_ret
    exact ⟨rfl, hB1⟩
  have h40' : s.size ≤ 40 := by omega
  have HI := Lib.hid (fun W => lis_any s W)
  have HR := Lib.hid (fun W => is_any s W)
  have HN := Lib.hid (fun W => rname_kw s W)
  obtain ⟨b, hb⟩ : ∃ b, b = kwB s := ⟨_, rfl⟩
  rw [← hb] at HI HR HN
  clear h40 hb
  cases b
  all_goals
    go_enter Tryd.func4, Tryd.ntmps4
    go_wp2_with fail
    refine HF.out.mono ?_
    rintro e w1 ⟨rfl, hB1⟩
    go_wp2_with fail
    refine (lwords_any _).mono ?_
    rintro e w2 ⟨rfl, hw2⟩
    have ht2 := words_txs w1
    rw [← hw2] at ht2
    have hB2 : Below w1.heap.size w1 w2 := by rw [hw2]; exact (Below.refl _ _).alloc (Nat.le_refl _) _
    clear hw2
    go_wp2_with fail
    refine (words_any _).mono ?_
    rintro e w3 ⟨rfl, hw3⟩
    have ht3 := words_txs w2
    rw [← hw3] at ht3
    have hB3 : Below w2.heap.size w2 w3 := by rw [hw3]; exact (Below.refl _ _).alloc (Nat.le_refl _) _
    have HS := Lib.hid (sameTexts_any w1.heap.size w2.heap.size 22 22 22 wordC w3 rfl (by decide) (ht2.below hB3) ht3)
    have HB3 := Lib.hid (hB1.trans ((hB2.trans (hB3.mono hB2.size)).mono hB1.size))
    clear hw3 ht2 ht3 hB3 hB2 hB1
    go_wp2_with fail
    refine HS.out.mono ?_
    rintro e w4 ⟨rfl, hB4⟩
    have HB4 := Lib.hid (HB3.out.trans (hB4.mono HB3.out.size))
    clear hB4
    go_wp2_with fail
    refine (HI.out _).mono ?_
    rintro e w5 ⟨rfl, hB5⟩
    have HB5 := Lib.hid (HB4.out.trans (hB5.mono HB4.out.size))
    clear hB5
    go_wp2_with fail
    refine (HR.out _).mono ?_
    rintro e w6 ⟨rfl, hB6⟩
    have HB6 := Lib.hid (HB5.out.trans (hB6.mono HB5.out.size))
    clear hB6
    go_wp2_with fail
    refine (HI.out _).mono ?_
    rintro e w7 ⟨rfl, hB7⟩
    have HB7 := Lib.hid (HB6.out.trans (hB7.mono HB6.out.size))
    clear hB7
    first
      | (go_wp2
         go_ret
         exact ⟨rfl, HB7.out⟩)
      | (go_wp2_with fail
         refine (HN.out _ (by first | rfl | trivial)).mono ?_
         rintro e w8 ⟨rfl, hB8⟩
         go_wp2
         go_ret
         exact ⟨rfl, HB7.out.trans (hB8.mono HB7.out.size)⟩)
theorem lexWords_walk (s : ByteArray) (w : World) (_ : s.size ≤ maxLen) (hL : laidMetH Tryd.prog laid8 w) : Calls Tryd.prog 4 #[.string s] w (RetYes w) := by
  obtain ⟨er, hE, _⟩ := of8 hL
  exact lexWords_raw s w er hE
end Go.Proofs.YteceipngknhcfaaDoor
