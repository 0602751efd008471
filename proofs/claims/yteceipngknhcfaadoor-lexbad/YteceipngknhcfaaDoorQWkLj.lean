/-
  The walk of LexJoins. Conditions: the listed errors lie as they are laid.
-/
import Derived.Test.YteceipngknhcfaaDoorQLawLj
namespace Go.Proofs.YteceipngknhcfaaDoor
open Go.Shelf Go.RowKit Go.Lib

/-- Where its first loop stands. -/
def JnRel (w2 : World) (l y : List Int) (x v i : Value) (wr : World) : Prop :=
  ∃ (k : Nat) (S : ByteArray) (A : Option Addr) (c : Nat), k ≤ l.length ∧ x = .string S ∧ S.data.toList = encs (catI (itsJ l y k)) ∧ i = .int .i64 (k : Int) ∧ v = .slice A k c ∧ Ow LS wr w2.heap.size (.slice A k c) (txJ l k) ∧ Below w2.heap.size w2 wr
theorem Ow.slice {α : Type} {L : Lie α} {w : World} {base : Nat} {v : Value} {l : List α} (h : Ow L w base v l) : ∃ A c, v = .slice A l.length c := by
  rcases h.form with ⟨rfl, rfl⟩ | ⟨g, cap, cs, rfl, _⟩
  · exact ⟨_, _, rfl⟩
  · exact ⟨_, _, rfl⟩
theorem S_size {S : ByteArray} {L : List UInt8} (h : S.data.toList = L) : S.size = L.length := by have := congrArg List.length h; simpa using this
theorem wpList_row_one {P : Program} {α : Type} {L : Lie α} {W : World} {base : Nat} {v : Value} {l : List α} {t : TypeId} (H : LieAt P t L) (x : α) (h : Ow L W base v l) (hle : l.length < 1099511627776) (hb : base ≤ W.heap.size) :
    ∃ v' w', (∀ ty, (Builtin.append_ #[t, t] ty #[v, .slice (some ⟨W.heap.size, 0, none⟩) 1 1]).run P (W.alloc (.cells (L.enc x).toArray L.ty)) = .ok v' w') ∧ Ow L w' base v' (l ++ [x]) ∧ Below base W w' := by
  obtain ⟨v', w', h1, h2, h3, _⟩ := append_ow_one H x h hle hb
  exact ⟨v', w', h1, h2, h3⟩

set_option maxRecDepth 100000 in
set_option maxHeartbeats 4000000 in
theorem lexJoins_raw (a1 : Option Addr) (n1 c1 : Nat) (l : List Int) (a2 : Option Addr) (n2 c2 : Nat) (y : List Int) (w : World) (hl : n1 = l.length) (h1 : Ints w w.heap.size a1 l) (hy : n2 = y.length) (h2 : Ints w w.heap.size a2 y) (er : Nat → Addr) (hE : Lerr w er) :
    Calls Tryd.prog 5 #[.slice a1 n1 c1, .slice a2 n2 c2] w (RetYes w) := by
  have HF := Lib.hid (lfirst_any er w hE)
  by_cases hn1 : 40 < n1
  · clear hl hy hE h1 h2
    go_enter Tryd.func5, Tryd.ntmps5
    go_wp2_with fail
    refine HF.out.mono ?_
    rintro e w1 ⟨rfl, hB1⟩
    go_wp2
    go_ret
    exact ⟨rfl, hB1⟩
  by_cases hn2 : 40 < n2
  · have hn1' : n1 ≤ 40 := by omega
    clear hl hy hE h1 h2 hn1
    go_enter Tryd.func5, Tryd.ntmps5
    go_wp2_with fail
    refine HF.out.mono ?_
    rintro e w1 ⟨rfl, hB1⟩
    go_wp2
    go_ret
    exact ⟨rfl, hB1⟩
  have hn1' : n1 ≤ 40 := by omega
  have hn2' : n2 ≤ 40 := by omega
  have HL := Lib.hid hl
  have HY := Lib.hid hy
  have H1 := Lib.hid h1
  have H2 := Lib.hid h2
  have HE := Lib.hid hE
  clear hl hy h1 h2 hE hn1 hn2
  go_enter Tryd.func5, Tryd.ntmps5
  go_wp2_with fail
  refine HF.out.mono ?_
  rintro e w1 ⟨rfl, hB1⟩
  have hE1 := HE.out.below hB1
  have hI1 := H1.out.below hB1
  have hI2 := H2.out.below hB1
  go_wp2
  generalize hw2 : World.alloc (World.alloc w1 _) _ = w2
  have hA : Blk w2 w1.heap.size 9 (jwC.map Value.string).toArray := by rw [← hw2]; exact (show Blk (w1.alloc (.cells (jwC.map Value.string).toArray 9)) w1.heap.size _ _ from heap_alloc_new w1 _).alloc _
  have hG : Blk w2 (w1.heap.size + 1) 9 (jgC.map Value.string).toArray := by
    rw [← hw2]
    have := heap_alloc_new (w1.alloc (.cells (jwC.map Value.string).toArray 9)) (.cells (jgC.map Value.string).toArray 9)
    rwa [World.size_alloc] at this
  have hB2 : Below w1.heap.size w1 w2 := by rw [← hw2]; exact ((Below.refl _ _).alloc (Nat.le_refl _) _).alloc (by simp) _
  have hz2 : w2.heap.size = w1.heap.size + 2 := by rw [← hw2]; simp
  clear hw2
  have HA := Lib.hid hA
  have HG := Lib.hid hG
  have HZ := Lib.hid hz2
  have HB := Lib.hid (hB1.trans (hB2.mono hB1.size))
  have HE2 := Lib.hid (hE1.below hB2)
  have HI1 := Lib.hid ((H1.out.below hB1).below (hB2.mono hB1.size))
  have HI2 := Lib.hid ((H2.out.below hB1).below (hB2.mono hB1.size))
  have HSz := Lib.hid hB1.size
  clear hA hG hB2 hz2 hE1 hI1 hI2 hB1 HF H1 H2 HE
  go_loopw [8, 9, 10] (fun x v i wr => JnRel w2 l y x v i wr) (fun _ _ i _ => n1 - (RowKit.intOf i).toNat)
  case atStart => exact ⟨0, ⟨#[]⟩, none, 0, Nat.zero_le _, rfl, by simp [itsJ, catI, encs], rfl, rfl, Ow.nil LS w2 w2.heap.size, Below.refl _ _⟩
  case round =>
    obtain ⟨k, S, A0, c0, hk, rfl, hS, rfl, rfl, hO, hB⟩ := hrel
    have hsz : S.size ≤ 1120 := by
      have h1 := S_size hS
      have h2 := catJ_len l y k
      have := HL.out
      omega
    by_cases hp : k < n1
    · have hkl : k < l.length := by have := HL.out; omega
      have hB0 := HB.out.size
      have hwr := hB.size
      have hwz : w.heap.size ≤ w2.heap.size := by omega
      have hI1 := HI1.out.below (hB.mono hwz)
      obtain ⟨ad, rfl, -, hc1⟩ := hI1.pick hkl
      have hm1 := Int.emod_nonneg l[k] (show (15 : Int) ≠ 0 by decide)
      have hm2 := Int.emod_lt_of_pos l[k] (show (0 : Int) < 15 by decide)
      obtain ⟨a, ha⟩ : ∃ a : Nat, l[k] % 15 = (a : Int) := ⟨(l[k] % 15).toNat, by omega⟩
      have haJ : aJ l k = a := by unfold aJ; rw [show l.getD k 0 = l[k] by simp [List.getD, List.getElem?_eq_getElem hkl], ha]; rfl
      have HN1 := Lib.hid (fun W => number_any l[k] 15 W (by decide) (by decide))
      rw [ha] at HN1 hm2
      have ha15 : a < 15 := by omega
      have hwc : wr.cell? ⟨w1.heap.size, a, none⟩ = some (.string (jwC.getD a ⟨#[]⟩)) := by
        rw [(HA.out.below hB (by have := HZ.out; omega)).cell a]
        have : a < jwC.length := ha15
        simp [List.getD, List.getElem?_eq_getElem this]
      have hgc : ∀ b, b < 5 → wr.cell? ⟨w1.heap.size + 1, b, none⟩ = some (.string (jgC.getD b ⟨#[]⟩)) := fun b hb => by
        rw [(HG.out.below hB (by have := HZ.out; omega)).cell b]
        have : b < jgC.length := hb
        simp [List.getD, List.getElem?_eq_getElem this]
      obtain ⟨hW1, hW2, _⟩ := jw_bytes a ha15
      obtain ⟨wd, hwd⟩ : ∃ wd, wd = jwC.getD a ⟨#[]⟩ := ⟨_, rfl⟩
      rw [← hwd] at hwc hW1
      obtain ⟨v', w', hrun, hO', hB'⟩ := wpList_row_one (t := 41) LSat wd hO (by rw [txJ_length]; omega) hwr
      obtain ⟨A1, cp1, rfl⟩ := hO'.slice
      rw [show (txJ l k ++ [wd]).length = k + 1 by rw [List.length_append, txJ_length]; rfl] at hrun hO'
      have HRow : Hid (Ow LS w' w2.heap.size (.slice A1 (k + 1) cp1) (txJ l (k + 1))) := Lib.hid (by rw [txJ_succ, haJ, ← hwd]; exact hO')
      have HBw := Lib.hid (hB.trans hB')
      have hgc' : ∀ b, b < 5 → w'.cell? ⟨w1.heap.size + 1, b, none⟩ = some (.string (jgC.getD b ⟨#[]⟩)) := fun b hb => (hB'.cell (p := ⟨w1.heap.size + 1, b, none⟩) (by show w1.heap.size + 1 < w2.heap.size; have := HZ.out; omega)).trans (hgc b hb)
      have hI2' := HI2.out.below ((hB.trans hB').mono hwz)
      have hwdz := S_size hW1
      have HSd := Lib.hid hS
      have HW1 := Lib.hid hW1
      have HaJ := Lib.hid haJ
      have hzw : wd.size ≤ 19 := by omega
      by_cases h45 : a = 10
      · have hwd' : wd = ⟨#[45]⟩ := by rw [hwd, h45]; rfl
        have hg0 := hgc' 0 (by decide)
        have HG2 : Hid (((S ++ ⟨#[45]⟩) ++ ⟨#[32]⟩).data.toList = encs (catI (itsJ l y (k + 1)))) := Lib.hid (by
          rw [catJ_succ, HaJ.out, h45, ByteArray.data_append, Array.toList_append, ByteArray.data_append, Array.toList_append, HSd.out, List.append_assoc]
          rfl)
        have HX := Lib.hid hg0
        have hgx : w'.cell? ⟨w1.heap.size + 1, 0, none⟩ = some (.string ⟨#[32]⟩) := hg0
        subst hwd'
        have h45' : ((⟨#[45]⟩ : ByteArray).toList == [45]) = true := by rw [ByteArray.toList_eq]; rfl
        by_cases hky : k < n2
        · have hkyl : k < y.length := by have := HY.out; omega
          obtain ⟨ad2, rfl, -, hc2⟩ := hI2'.pick hkyl
          have hq1 := Int.emod_nonneg y[k] (show (5 : Int) ≠ 0 by decide)
          have hq2 := Int.emod_lt_of_pos y[k] (show (0 : Int) < 5 by decide)
          obtain ⟨b, hb⟩ : ∃ b : Nat, y[k] % 5 = (b : Int) := ⟨(y[k] % 5).toNat, by omega⟩
          have HN2 := Lib.hid (fun W => number_any y[k] 5 W (by decide) (by decide))
          rw [hb] at HN2 hq2
          have hb5 : b < 5 := by omega
          have hgb := hgc' b hb5
          clear hS hW1 hW2 haJ ha hb hgc hgc' hwd hO hO' hB hB' hI1 hI2' hm1 hq1 hg0 h45
          go_wp2_with fail
          refine (HN1.out _).mono ?_
          rintro e w5 ⟨rfl, rfl⟩
          go_wp2_with (at_builtin; refine wpList_append_eq rfl _ _ 41 rfl _ _ _ w' rfl rfl (hrun _) ?_)
          refine (HN2.out _).mono ?_
          rintro e w5 ⟨rfl, rfl⟩
          go_wp2
          go_roundw
          case rel => exact ⟨k + 1, _, A1, cp1, by omega, rfl, HG2.out, by go_num, rfl, HRow.out, HBw.out⟩
          case measure => simp [RowKit.intOf]; omega
        · clear hS hW1 hW2 haJ ha hgc hgc' hwd hO hO' hB hB' hI1 hI2' hm1 hg0 h45
          go_wp2_with fail
          refine (HN1.out _).mono ?_
          rintro e w5 ⟨rfl, rfl⟩
          go_wp2_with (at_builtin; refine wpList_append_eq rfl _ _ 41 rfl _ _ _ w' rfl rfl (hrun _) ?_)
          go_roundw
          case rel => exact ⟨k + 1, _, A1, cp1, by omega, rfl, HG2.out, by go_num, rfl, HRow.out, HBw.out⟩
          case measure => simp [RowKit.intOf]; omega
      · have h45' : (wd.toList == [45]) = false := by
          rw [ByteArray.toList_eq]
          refine beq_eq_false_iff_ne.2 fun e => ?_
          have : ∀ a, a < 15 → a ≠ 10 → encs (wJ a) ≠ [45] := by decide
          rw [HW1.out] at e
          exact this a ha15 h45 e
        have hgJ : ∀ b, gJ a b = jg.getD b [] := fun b => by unfold gJ; rw [if_neg h45]
        by_cases hky : k < n2
        · have hkyl : k < y.length := by have := HY.out; omega
          obtain ⟨ad2, rfl, -, hc2⟩ := hI2'.pick hkyl
          have hq1 := Int.emod_nonneg y[k] (show (5 : Int) ≠ 0 by decide)
          have hq2 := Int.emod_lt_of_pos y[k] (show (0 : Int) < 5 by decide)
          obtain ⟨b, hb⟩ : ∃ b : Nat, y[k] % 5 = (b : Int) := ⟨(y[k] % 5).toNat, by omega⟩
          have HN2 := Lib.hid (fun W => number_any y[k] 5 W (by decide) (by decide))
          have hbJ : bJ y k = b := by unfold bJ; rw [if_pos hkyl, show y.getD k 0 = y[k] by simp [List.getD, List.getElem?_eq_getElem hkyl], hb]; rfl
          rw [hb] at HN2 hq2
          have hb5 : b < 5 := by omega
          have hgb := hgc' b hb5
          have hg0 := hgc' 0 (by decide)
          obtain ⟨hQ1, hQ2, _⟩ := jg_bytes b hb5
          obtain ⟨gd, hgd⟩ : ∃ gd, gd = jgC.getD b ⟨#[]⟩ := ⟨_, rfl⟩
          rw [← hgd] at hgb hQ1
          have hgz : gd.size ≤ 9 := by have := S_size hQ1; omega
          have HG2 : Hid (((S ++ wd) ++ gd).data.toList = encs (catI (itsJ l y (k + 1)))) := Lib.hid (by
            rw [catJ_succ, HaJ.out, hbJ, hgJ, ByteArray.data_append, Array.toList_append, ByteArray.data_append, Array.toList_append, HSd.out, HW1.out, hQ1, List.append_assoc])
          clear hS hW1 hW2 haJ ha hb hgc hgc' hwd hO hO' hB hB' hI1 hI2' hm1 hq1 h45 hgJ hgd hQ1 hQ2 hbJ
          go_wp2_with fail
          refine (HN1.out _).mono ?_
          rintro e w5 ⟨rfl, rfl⟩
          go_wp2_with (at_builtin; refine wpList_append_eq rfl _ _ 41 rfl _ _ _ w' rfl rfl (hrun _) ?_)
          refine (HN2.out _).mono ?_
          rintro e w5 ⟨rfl, rfl⟩
          go_wp2
          go_roundw
          case rel => exact ⟨k + 1, _, A1, cp1, by omega, rfl, HG2.out, by go_num, rfl, HRow.out, HBw.out⟩
          case measure => simp [RowKit.intOf]; omega
        · have hbJ : bJ y k = 0 := by unfold bJ; rw [if_neg (by have := HY.out; omega)]
          have hg0 : w'.cell? ⟨w1.heap.size + 1, 0, none⟩ = some (.string ⟨#[32]⟩) := hgc' 0 (by decide)
          have HG2 : Hid (((S ++ wd) ++ ⟨#[32]⟩).data.toList = encs (catI (itsJ l y (k + 1)))) := Lib.hid (by
            rw [catJ_succ, HaJ.out, hbJ, hgJ, ByteArray.data_append, Array.toList_append, ByteArray.data_append, Array.toList_append, HSd.out, HW1.out, List.append_assoc]
            rfl)
          clear hS hW1 hW2 haJ ha hgc hgc' hwd hO hO' hB hB' hI1 hI2' hm1 h45 hgJ hbJ
          go_wp2_with fail
          refine (HN1.out _).mono ?_
          rintro e w5 ⟨rfl, rfl⟩
          go_wp2_with (at_builtin; refine wpList_append_eq rfl _ _ 41 rfl _ _ _ w' rfl rfl (hrun _) ?_)
          go_roundw
          case rel => exact ⟨k + 1, _, A1, cp1, by omega, rfl, HG2.out, by go_num, rfl, HRow.out, HBw.out⟩
          case measure => simp [RowKit.intOf]; omega
    · obtain rfl : k = n1 := by have := HL.out; omega
      have hHA := all_any S (by omega) er (tksJ l y k) none (lexJ l y k S hS) (by rw [tksJ_length]; omega) wr (HE2.out.below hB)
      have HA2 := Lib.hid hHA
      have HO := Lib.hid hO
      have HBr := Lib.hid (HB.out.trans (hB.mono HB.out.size))
      have HW2 := Lib.hid (show w2.heap.size ≤ wr.heap.size from hB.size)
      clear hHA hS hO hB hsz HA HG HI1 HI2 HE2
      go_wp2_with fail
      refine HA2.out.mono ?_
      rintro e w5 ⟨hB5, v5, rfl, hO5⟩
      have hne : tksJ l y k ≠ [] := fun e => by have := congrArg List.length e; rw [tksJ_length] at this; simp at this
      obtain ⟨g, c5, rfl, -, -, hlc, hcell⟩ := hO5.at_ hne
      have hk0 : w5.cell? ⟨g, k * 4, none⟩ = some (.int .i64 0) := by
        have := hcell k (by rw [tksJ_length]; omega) 0 (.int .i64 0) (by
          show some (Value.int .i64 (((tksJ l y k)[k]'(by rw [tksJ_length]; omega)).kind : Int)) = _
          rw [tksJ_end]
          rfl)
        rw [show LT.n = 4 from rfl] at this
        simpa using this
      have HTx := Lib.hid (fun j (hj : j < k) => hcell j (by rw [tksJ_length]; omega) 2 (.string (jwC.getD (aJ l j) ⟨#[]⟩)) (by
        show some (Value.string ⟨(((tksJ l y k)[j]'(by rw [tksJ_length]; omega)).text).toArray⟩) = _
        rw [tksJ_text l y k j hj]))
      have hwant : ∀ j, j < k → ∃ ad, A0 = some ad ∧ wr.cell? (ad.add j) = some (.string (jwC.getD (aJ l j) ⟨#[]⟩)) ∧ ad.block < wr.heap.size := fun j hj => by
        have h0 : txJ l k ≠ [] := fun e => by have := congrArg List.length e; rw [txJ_length] at this; simp at this; omega
        obtain ⟨g2, c2, e2, -, hlt, -, hc2⟩ := HO.out.at_ h0
        simp only [Value.slice.injEq] at e2
        obtain ⟨rfl, -, rfl⟩ := e2
        refine ⟨_, rfl, ?_, hlt⟩
        have := hc2 j (by rw [txJ_length]; exact hj) 0 (.string (jwC.getD (aJ l j) ⟨#[]⟩)) (by
          show some (Value.string _) = _
          rw [txJ_get l k j hj])
        rw [lit_add]
        simpa [LS] using this
      have HWn := Lib.hid hwant
      have HB5 := Lib.hid hB5
      rw [tksJ_length] at hlc ⊢
      clear hcell hO5 hwant hB5
      go_wp2
      go_loopw [15] (fun i wr2 => ∃ j : Nat, j ≤ k ∧ i = .int .i64 (j : Int) ∧ Below w5.heap.size w5 wr2) (fun i _ => k - (RowKit.intOf i).toNat)
      case atStart => exact ⟨0, Nat.zero_le _, rfl, Below.refl _ _⟩
      case round =>
        obtain ⟨j, hj, rfl, hBx⟩ := hrel
        have HBx := Lib.hid hBx.drew
        have HBy := Lib.hid hBx
        by_cases hjk : j < k
        · obtain ⟨ad, rfl, hwc, hwl⟩ := HWn.out j hjk
          have hwc5 := (hBx.cell (p := ad.add j) (by rw [add_block]; have := HB5.out.size; omega)).trans ((HB5.out.cell (by rw [add_block]; exact hwl)).trans hwc)
          have htx := HTx.out j hjk
          have hgl : g < w5.heap.size := World.block_lt_of_cell? w5 _ hk0
          have htc5 := (hBx.cell (p := ⟨g, j * 4 + 2, none⟩) hgl).trans htx
          obtain ⟨t, ht⟩ : ∃ t, t = jwC.getD (aJ l j) ⟨#[]⟩ := ⟨_, rfl⟩
          rw [← ht] at hwc5 htc5
          have he : (t.toList != t.toList) = false := by simp
          clear hwc htx ht hBx
          go_wp2
          go_region
          all_goals
            go_wp2
            go_roundw
            case rel => exact ⟨j + 1, by omega, by go_num, HBx.out⟩
            case measure => simp [RowKit.intOf]; omega
        · clear hBx
          go_wp2
          go_ret
          exact ⟨rfl, HBr.out.trans ((HB5.out.trans (HBy.out.mono HB5.out.size)).mono (by have := HBr.out.size; omega))⟩
theorem lexJoins_walk (a1 : Option Addr) (n1 c1 : Nat) (l : List Int) (a2 : Option Addr) (n2 c2 : Nat) (y : List Int) (w : World) (hl : n1 = l.length) (h1 : Ints w w.heap.size a1 l) (hy : n2 = y.length) (h2 : Ints w w.heap.size a2 y) (hL : laidMetH Tryd.prog laid8 w) :
    Calls Tryd.prog 5 #[.slice a1 n1 c1, .slice a2 n2 c2] w (RetYes w) := by
  obtain ⟨er, hE, _⟩ := of8 hL
  exact lexJoins_raw a1 n1 c1 l a2 n2 c2 y w hl h1 hy h2 er hE
end Go.Proofs.YteceipngknhcfaaDoor
