/-
  How deep, how many, few: the walks of the functions that only read an expression. Conditions: each theorem's own premises.
-/
import Derived.Test.YtacmibkcnmaagaaDoorQTrA
import Derived.Lib.Hide
namespace Go.Proofs.YtacmibkcnmaagaaDoor
open Go.RowKit Go.Lib

/-- A value is answered; what lay below stays. -/
def RetV (w : World) (v : Value) (e : Ending) (w' : World) : Prop := e = .returned v ∧ Below w.heap.size w w'
theorem depL_take (l : List Ex) (k : Nat) (h : k < l.length) : depL (l.take (k + 1)) = max (depL (l.take k)) l[k].dep := by
  rw [take_succ h, depL_append]
  simp [depL]
theorem cntL_take (l : List Ex) (k : Nat) (h : k < l.length) : cntL (l.take (k + 1)) = cntL (l.take k) + l[k].cnt := by
  rw [take_succ h, cntL_append]
  simp [cntL]
theorem take_all (l : List Ex) (k : Nat) (h : l.length ≤ k) : l.take k = l := List.take_of_length_le h
/-- Where a loop over the parts stands. -/
def DepRel (w : World) (l : List Ex) (v i : Value) (wr : World) : Prop := ∃ k : Nat, k ≤ l.length ∧ v = .int .i64 (depL (l.take k) : Int) ∧ i = .int .i64 (k : Int) ∧ Below w.heap.size w wr
def CntRel (w : World) (c : Nat) (l : List Ex) (v i : Value) (wr : World) : Prop := ∃ k : Nat, k ≤ l.length ∧ v = .int .i64 ((c + cntL (l.take k) : Nat) : Int) ∧ i = .int .i64 (k : Int) ∧ Below w.heap.size w wr

set_option maxRecDepth 100000 in
set_option maxHeartbeats 1000000 in
theorem rdep_any : ∀ (d : Nat) (e : Ex) (B : Nat) (w : World), e.dep ≤ d → d ≤ 100000 → e.slim 100000 = true → e.Lies w (· < B) → B ≤ w.heap.size → Calls Tryd.prog 54 #[e.val] w (RetV w (.int .i64 (e.dep : Int)))
  | 0, e, _, _, h, _, _, _, _ => by rw [Ex.dep_eq] at h; omega
  | d + 1, e, B, w, hd, hd2, hs, hl, hB => by
    have hx := hl.xs
    have hde := Ex.dep_eq e
    obtain ⟨hs1, hs2⟩ := Ex.slim_in hs
    have hdd := Ex.dep_eq e
    obtain ⟨op, pos, n, name, A, c, l⟩ := e
    simp only [Ex.l, Ex.A, Ex.c] at hx hde hs1 hs2 hdd
    dsimp only [Ex.val, Ex.op, Ex.pos, Ex.n, Ex.name, Ex.A, Ex.c, Ex.l]
    have IH := Lib.hid (fun (x : Ex) (W : World) (hm : x ∈ l) (hb : Below w.heap.size w W) => rdep_any d x B W (by have := dep_mem hm; omega) (by omega) (hs2 x hm) ((hx.all x hm).below (hb.mono hB)) (Nat.le_trans hB hb.size))
    unfold Ex.val at IH
    have HX := Lib.hid hx
    have HD := Lib.hid hde
    obtain ⟨X, hX⟩ : ∃ X : ByteArray, X = ⟨name.toArray⟩ := ⟨_, rfl⟩
    rw [← hX]
    obtain ⟨len, hlen⟩ : ∃ len, len = l.length := ⟨_, rfl⟩
    rw [← hlen] at hs1 ⊢
    have HL := Lib.hid hlen
    obtain ⟨W0, hW0⟩ : ∃ W0, W0 = w.alloc (.cells #[.int .i64 op, .int .i64 pos, .int .i64 n, .string X, .slice A len c] 34) := ⟨_, rfl⟩
    have hB0 : Below w.heap.size w W0 := by rw [hW0]; exact (Below.refl _ _).alloc (Nat.le_refl _) _
    have hb0 : Blk W0 w.heap.size 34 #[.int .i64 op, .int .i64 pos, .int .i64 n, .string X, .slice A len c] := by rw [hW0]; exact heap_alloc_new w _
    have h4 : W0.cell? ⟨w.heap.size, 4, none⟩ = some (.slice A len c) := hb0.cell 4
    have HB0 := Lib.hid hB0
    have Hb0 := Lib.hid hb0
    have hdl : depL l ≤ 100000 := by omega
    clear hx hde hs2 hl hs hB0 hX hlen hd hb0 hdd
    go_enter Tryd.func54, Tryd.ntmps54
    go_wp2_with fail
    rw [← hW0]
    clear hW0
    go_wp2_with fail
    go_loopw [3, 4] (fun v i wr => DepRel w l v i wr ∧ wr.cell? ⟨w.heap.size, 4, none⟩ = some (.slice A len c)) (fun _ i _ => len - (RowKit.intOf i).toNat)
    case atStart => exact ⟨⟨0, Nat.zero_le _, rfl, rfl, HB0.out⟩, h4⟩
    case round =>
      clear h4
      obtain ⟨⟨k, hk, rfl, rfl, hb⟩, h4⟩ := hrel
      have hLl := HL.out
      by_cases hp : k < len
      · obtain ⟨b, o, rfl, -⟩ := HX.out.hd.at_ (by omega)
        have hx2 := HX.out.below (hb.mono hB)
        have hp' : k < l.length := by omega
        obtain ⟨c0, c1, c2, c3, c4⟩ := hx2.five hp'
        have HT := Lib.hid (depL_take l k hp')
        have HI := Lib.hid (fun W hW => IH.out l[k] W (List.getElem_mem hp') hW)
        have hbk : (l[k]).dep ≤ depL l := dep_mem (List.getElem_mem hp')
        obtain ⟨x, hx⟩ : ∃ x, x = l[k] := ⟨_, rfl⟩
        rw [← hx] at c0 c1 c2 c3 c4 HT HI hbk
        clear hx hx2 hp' hLl
        obtain ⟨a, ha⟩ : ∃ a, a = depL (l.take k) := ⟨_, rfl⟩
        rw [← ha] at HT ⊢
        have HM : Hid ((if a < x.dep then (x.dep : Int) else (a : Int)) = (depL (l.take (k + 1)) : Int)) := Lib.hid (by rw [HT.out]; split <;> omega)
        clear ha
        have HB1 := Lib.hid hb
        have HH4 := Lib.hid h4
        have HI1 := Lib.hid (HI.out wr hb)
        clear HI
        go_wp2_with fail
        skip
        refine HI1.out.mono ?_
        rintro e w2 ⟨rfl, hB2⟩
        have HB2 := Lib.hid (HB1.out.trans (hB2.mono HB1.out.size))
        have h42 : w2.cell? ⟨w.heap.size, 4, none⟩ = some (.slice (some ⟨b, o, none⟩) len c) := (hB2.cell (p := ⟨w.heap.size, 4, none⟩) (World.block_lt_of_cell? _ _ HH4.out)).trans HH4.out
        have HH42 := Lib.hid h42
        clear h42 hB2
        go_wp2
        go_roundw
        case rel => exact ⟨⟨k + 1, by have := HL.out; omega, by rw [HM.out], by go_num, HB2.out⟩, HH42.out⟩
        case measure => simp [RowKit.intOf]; omega
      · have HT := Lib.hid (take_all l k (by omega))
        have HE : Hid (depL (l.take k) = depL l) := Lib.hid (by rw [HT.out])
        have HB := Lib.hid hb
        clear hb
        rw [HE.out]
        go_wp2
        go_ret
        exact ⟨by rw [HD.out, Int.natCast_add]; rfl, HB.out⟩
set_option maxRecDepth 100000 in
set_option maxHeartbeats 1000000 in
theorem wmany_any : ∀ (d : Nat) (e : Ex) (B : Nat) (w : World), e.dep ≤ d → d ≤ 100000 → e.slim 100000 = true → e.cnt ≤ 1000000000 → e.Lies w (· < B) → B ≤ w.heap.size → Calls Tryd.prog 50 #[e.val] w (RetV w (.int .i64 (e.cnt : Int)))
  | 0, e, _, _, h, _, _, _, _, _ => by rw [Ex.dep_eq] at h; omega
  | d + 1, e, B, w, hd, hd2, hs, hcn, hl, hB => by
    have hx := hl.xs
    have hde := Ex.cnt_eq e
    obtain ⟨hs1, hs2⟩ := Ex.slim_in hs
    have hdd := Ex.dep_eq e
    obtain ⟨op, pos, n, name, A, c, l⟩ := e
    simp only [Ex.l, Ex.A, Ex.c] at hx hde hs1 hs2 hdd
    dsimp only [Ex.val, Ex.op, Ex.pos, Ex.n, Ex.name, Ex.A, Ex.c, Ex.l]
    have IH := Lib.hid (fun (x : Ex) (W : World) (hm : x ∈ l) (hb : Below w.heap.size w W) => wmany_any d x B W (by have := dep_mem hm; omega) (by omega) (hs2 x hm) (by have := cnt_mem hm; omega) ((hx.all x hm).below (hb.mono hB)) (Nat.le_trans hB hb.size))
    unfold Ex.val at IH
    have HX := Lib.hid hx
    have HD := Lib.hid hde
    obtain ⟨X, hX⟩ : ∃ X : ByteArray, X = ⟨name.toArray⟩ := ⟨_, rfl⟩
    rw [← hX]
    obtain ⟨len, hlen⟩ : ∃ len, len = l.length := ⟨_, rfl⟩
    rw [← hlen] at hs1 ⊢
    have HL := Lib.hid hlen
    obtain ⟨W0, hW0⟩ : ∃ W0, W0 = w.alloc (.cells #[.int .i64 op, .int .i64 pos, .int .i64 n, .string X, .slice A len c] 34) := ⟨_, rfl⟩
    have hB0 : Below w.heap.size w W0 := by rw [hW0]; exact (Below.refl _ _).alloc (Nat.le_refl _) _
    have hb0 : Blk W0 w.heap.size 34 #[.int .i64 op, .int .i64 pos, .int .i64 n, .string X, .slice A len c] := by rw [hW0]; exact heap_alloc_new w _
    have h4 : W0.cell? ⟨w.heap.size, 4, none⟩ = some (.slice A len c) := hb0.cell 4
    have HB0 := Lib.hid hB0
    have Hb0 := Lib.hid hb0
    have hdl : cntL l ≤ 1000000000 := by omega
    clear hx hde hs2 hl hs hB0 hX hlen hd hb0 hdd
    go_enter Tryd.func50, Tryd.ntmps50
    go_wp2_with fail
    rw [← hW0]
    clear hW0
    go_wp2_with fail
    go_loopw [3, 4] (fun v i wr => CntRel w 1 l v i wr ∧ wr.cell? ⟨w.heap.size, 4, none⟩ = some (.slice A len c)) (fun _ i _ => len - (RowKit.intOf i).toNat)
    case atStart => exact ⟨⟨0, Nat.zero_le _, rfl, rfl, HB0.out⟩, h4⟩
    case round =>
      clear h4
      obtain ⟨⟨k, hk, rfl, rfl, hb⟩, h4⟩ := hrel
      have hLl := HL.out
      by_cases hp : k < len
      · obtain ⟨b, o, rfl, -⟩ := HX.out.hd.at_ (by omega)
        have hx2 := HX.out.below (hb.mono hB)
        have hp' : k < l.length := by omega
        obtain ⟨c0, c1, c2, c3, c4⟩ := hx2.five hp'
        have HT := Lib.hid (cntL_take l k hp')
        have HI := Lib.hid (fun W hW => IH.out l[k] W (List.getElem_mem hp') hW)
        have hbk : cntL (l.take k) + (l[k]).cnt ≤ cntL l := by
          have h1 := cntL_append (l.take (k + 1)) (l.drop (k + 1))
          rw [List.take_append_drop] at h1
          have h2 := cntL_take l k hp'
          omega
        obtain ⟨x, hx⟩ : ∃ x, x = l[k] := ⟨_, rfl⟩
        rw [← hx] at c0 c1 c2 c3 c4 HT HI hbk
        clear hx hx2 hp' hLl
        obtain ⟨a, ha⟩ : ∃ a, a = cntL (l.take k) := ⟨_, rfl⟩
        rw [← ha] at HT ⊢
        have HM : Hid ((1 + (a : Int) + (x.cnt : Int)) = ((1 + cntL (l.take (k + 1)) : Nat) : Int)) := Lib.hid (by rw [HT.out]; omega)
        rw [← ha] at hbk
        clear ha
        have HB1 := Lib.hid hb
        have HH4 := Lib.hid h4
        have HI1 := Lib.hid (HI.out wr hb)
        clear HI
        go_wp2_with fail
        skip
        refine HI1.out.mono ?_
        rintro e w2 ⟨rfl, hB2⟩
        have HB2 := Lib.hid (HB1.out.trans (hB2.mono HB1.out.size))
        have h42 : w2.cell? ⟨w.heap.size, 4, none⟩ = some (.slice (some ⟨b, o, none⟩) len c) := (hB2.cell (p := ⟨w.heap.size, 4, none⟩) (World.block_lt_of_cell? _ _ HH4.out)).trans HH4.out
        have HH42 := Lib.hid h42
        clear h42 hB2
        go_wp2
        go_roundw
        case rel => exact ⟨⟨k + 1, by have := HL.out; omega, by rw [HM.out], by go_num, HB2.out⟩, HH42.out⟩
        case measure => simp [RowKit.intOf]; omega
      · have HT := Lib.hid (take_all l k (by omega))
        have HE : Hid (cntL (l.take k) = cntL l) := Lib.hid (by rw [HT.out])
        have HB := Lib.hid hb
        clear hb
        rw [HE.out]
        go_wp2
        go_ret
        exact ⟨by rw [HD.out]; rfl, HB.out⟩
end Go.Proofs.YtacmibkcnmaagaaDoor
