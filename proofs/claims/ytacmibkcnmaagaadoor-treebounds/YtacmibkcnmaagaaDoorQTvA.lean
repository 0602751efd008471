/-
  The library's IndexFunc and ContainsFunc where tree uses them: some element has it, or none. Conditions: each theorem's own premises.
-/
import Derived.Test.YtacmibkcnmaagaaDoorQTrL
import Derived.Test.YtacmibkcnmaagaaDoorQDcA
namespace Go.Proofs.YtacmibkcnmaagaaDoor
open Go.RowKit Go.Lib
attribute [local go_sem] Oper.semAt_some

theorem any_take {α : Type} (p : α → Bool) (l : List α) (j : Nat) (hj : j < l.length) (h : (l.take j).any p = false) : (p l[j] = true → l.any p = true) ∧ (p l[j] = false → (l.take (j + 1)).any p = false) := by
  refine ⟨fun hp => List.any_eq_true.2 ⟨l[j], List.getElem_mem hj, hp⟩, fun hp => ?_⟩
  rw [List.take_succ_eq_append_getElem hj, List.any_append, h]
  simp [hp]

set_option maxRecDepth 100000 in
set_option maxHeartbeats 1000000 in
theorem idxX_any (p : Ex → Bool) (A : Option Addr) (c : Nat) (l : List (Ex)) (w : World) (hs : Sl LX w (· < w.heap.size) A c l) (H : ∀ x ∈ l, ∀ W, Below w.heap.size w W → Calls Tryd.prog 79 #[.agg #[.int .i64 x.op, .int .i64 x.pos, .int .i64 x.n, .string ⟨x.name.toArray⟩, .slice x.A x.l.length x.c]] W fun e W' => e = .returned (.bool (p x)) ∧ Below W.heap.size W W') :
    Calls Tryd.prog 116 #[.slice A l.length c, .func (.func 79) #[] #[]] w fun e w' => ∃ i : Int, e = .returned (.int .i64 i) ∧ decide (0 ≤ i) = l.any p ∧ Below w.heap.size w w' := by
  have HS := Lib.hid hs
  have HH := Lib.hid H
  obtain ⟨len, hln⟩ : ∃ len, len = l.length := ⟨_, rfl⟩
  rw [← hln]
  have HL := Lib.hid hln
  have hlc : len ≤ c := by rw [hln]; exact hs.hd.le
  have hcm : c ≤ 9223372036854775807 := by have := hs.hd.big; simpa [maxLen] using this
  clear hs H hln
  go_enter Tryd.func116, Tryd.ntmps116
  go_wp2_with fail
  go_loopw [8] (fun i wr => ∃ j : Nat, j ≤ len ∧ i = .int .i64 (j : Int) ∧ (l.take j).any p = false ∧ Below w.heap.size w wr) (fun i _ => len - (RowKit.intOf i).toNat)
  case atStart => exact ⟨0, Nat.zero_le _, rfl, rfl, Below.refl _ _⟩
  case round =>
    obtain ⟨j, hj, rfl, hA, hB⟩ := hrel
    by_cases hp : j < len
    · have hjl : j < l.length := by rw [← HL.out]; exact hp
      have hsw := HS.out.below hB
      obtain ⟨bb, oo, rfl, -⟩ := hsw.hd.at_ (by omega)
      obtain ⟨x, hx⟩ : ∃ x, x = l[j] := ⟨_, rfl⟩
      have c0 : wr.cell? ⟨bb, oo + j * 5, none⟩ = some (.int .i64 x.op) := by rw [hx]; exact hsw.at_ hjl 0 _ (by decide) rfl
      have c1 : wr.cell? ⟨bb, oo + j * 5 + 1, none⟩ = some (.int .i64 x.pos) := by rw [hx]; exact hsw.at_ hjl 1 _ (by decide) rfl
      have c2 : wr.cell? ⟨bb, oo + j * 5 + 2, none⟩ = some (.int .i64 x.n) := by rw [hx]; exact hsw.at_ hjl 2 _ (by decide) rfl
      have c3 : wr.cell? ⟨bb, oo + j * 5 + 3, none⟩ = some (.string ⟨x.name.toArray⟩) := by rw [hx]; exact hsw.at_ hjl 3 _ (by decide) rfl
      have c4 : wr.cell? ⟨bb, oo + j * 5 + 4, none⟩ = some (.slice x.A x.l.length x.c) := by rw [hx]; exact hsw.at_ hjl 4 _ (by decide) rfl
      have hT := any_take p l j hjl hA
      rw [← hx] at hT
      have HX := Lib.hid (HH.out x (by rw [hx]; exact List.getElem_mem hjl) wr hB)
      have HT := Lib.hid hT
      have HB := Lib.hid hB
      clear hsw hx hT hA hB
      go_wp2_with fail
      refine HX.out.mono ?_
      rintro e w2 ⟨rfl, h2⟩
      have HB2 := Lib.hid (HB.out.trans (h2.mono HB.out.size))
      clear h2 HX HB
      cases hpx : p x
      · have HN := Lib.hid (HT.out.2 hpx)
        clear hpx HT
        go_wp2
        go_roundw
        case rel => exact ⟨j + 1, by omega, by go_num, HN.out, HB2.out⟩
        case measure => simp [RowKit.intOf]; omega
      · have HY := Lib.hid (HT.out.1 hpx)
        clear hpx HT
        go_wp2
        go_ret
        exact ⟨(j : Int), rfl, by rw [HY.out]; exact decide_eq_true (by omega), HB2.out⟩
    · have HN : Hid (l.any p = false) := Lib.hid (by
        have := hA
        rw [List.take_of_length_le (by rw [← HL.out]; omega)] at this
        exact this)
      have HB := Lib.hid hB
      clear hA hB
      go_wp2
      go_ret
      exact ⟨-1, rfl, by rw [HN.out]; rfl, HB.out⟩
set_option maxRecDepth 100000 in
set_option maxHeartbeats 400000 in
theorem hasX_any (p : Ex → Bool) (A : Option Addr) (c : Nat) (l : List (Ex)) (w : World) (hs : Sl LX w (· < w.heap.size) A c l) (H : ∀ x ∈ l, ∀ W, Below w.heap.size w W → Calls Tryd.prog 79 #[.agg #[.int .i64 x.op, .int .i64 x.pos, .int .i64 x.n, .string ⟨x.name.toArray⟩, .slice x.A x.l.length x.c]] W fun e W' => e = .returned (.bool (p x)) ∧ Below W.heap.size W W') :
    Calls Tryd.prog 78 #[.slice A l.length c, .func (.func 79) #[] #[]] w fun e w' => e = .returned (.bool (l.any p)) ∧ Below w.heap.size w w' := by
  have HI := Lib.hid (idxX_any p A c l w hs H)
  generalize l.any p = r at *
  clear hs H
  go_enter Tryd.func78, Tryd.ntmps78
  go_wp2_with fail
  refine HI.out.mono ?_
  rintro e w2 ⟨i, rfl, hi, h2⟩
  have HR := Lib.hid hi
  have HB := Lib.hid h2
  clear hi h2 HI
  go_wp2
  go_ret
  exact ⟨by rw [← HR.out]; rfl, HB.out⟩

set_option maxRecDepth 100000 in
set_option maxHeartbeats 1000000 in
theorem idxP_any (bp : Nat) (p : Ex → Bool) (A : Option Addr) (c : Nat) (l : List (Ex)) (w : World) (hs : Sl LX w (· < w.heap.size) A c l) (H : ∀ x ∈ l, ∀ W, Below w.heap.size w W → Calls Tryd.prog 115 #[.agg #[.int .i64 x.op, .int .i64 x.pos, .int .i64 x.n, .string ⟨x.name.toArray⟩, .slice x.A x.l.length x.c], .pointer (some ⟨bp, 0, none⟩)] W fun e W' => e = .returned (.bool (p x)) ∧ Below W.heap.size W W') :
    Calls Tryd.prog 116 #[.slice A l.length c, .func (.func 115) #[] #[.pointer (some ⟨bp, 0, none⟩)]] w fun e w' => ∃ i : Int, e = .returned (.int .i64 i) ∧ decide (0 ≤ i) = l.any p ∧ Below w.heap.size w w' := by
  have HS := Lib.hid hs
  have HH := Lib.hid H
  obtain ⟨len, hln⟩ : ∃ len, len = l.length := ⟨_, rfl⟩
  rw [← hln]
  have HL := Lib.hid hln
  have hlc : len ≤ c := by rw [hln]; exact hs.hd.le
  have hcm : c ≤ 9223372036854775807 := by have := hs.hd.big; simpa [maxLen] using this
  clear hs H hln
  go_enter Tryd.func116, Tryd.ntmps116
  go_wp2_with fail
  go_loopw [8] (fun i wr => ∃ j : Nat, j ≤ len ∧ i = .int .i64 (j : Int) ∧ (l.take j).any p = false ∧ Below w.heap.size w wr) (fun i _ => len - (RowKit.intOf i).toNat)
  case atStart => exact ⟨0, Nat.zero_le _, rfl, rfl, Below.refl _ _⟩
  case round =>
    obtain ⟨j, hj, rfl, hA, hB⟩ := hrel
    by_cases hp : j < len
    · have hjl : j < l.length := by rw [← HL.out]; exact hp
      have hsw := HS.out.below hB
      obtain ⟨bb, oo, rfl, -⟩ := hsw.hd.at_ (by omega)
      obtain ⟨x, hx⟩ : ∃ x, x = l[j] := ⟨_, rfl⟩
      have c0 : wr.cell? ⟨bb, oo + j * 5, none⟩ = some (.int .i64 x.op) := by rw [hx]; exact hsw.at_ hjl 0 _ (by decide) rfl
      have c1 : wr.cell? ⟨bb, oo + j * 5 + 1, none⟩ = some (.int .i64 x.pos) := by rw [hx]; exact hsw.at_ hjl 1 _ (by decide) rfl
      have c2 : wr.cell? ⟨bb, oo + j * 5 + 2, none⟩ = some (.int .i64 x.n) := by rw [hx]; exact hsw.at_ hjl 2 _ (by decide) rfl
      have c3 : wr.cell? ⟨bb, oo + j * 5 + 3, none⟩ = some (.string ⟨x.name.toArray⟩) := by rw [hx]; exact hsw.at_ hjl 3 _ (by decide) rfl
      have c4 : wr.cell? ⟨bb, oo + j * 5 + 4, none⟩ = some (.slice x.A x.l.length x.c) := by rw [hx]; exact hsw.at_ hjl 4 _ (by decide) rfl
      have hT := any_take p l j hjl hA
      rw [← hx] at hT
      have HX := Lib.hid (HH.out x (by rw [hx]; exact List.getElem_mem hjl) wr hB)
      have HT := Lib.hid hT
      have HB := Lib.hid hB
      clear hsw hx hT hA hB
      go_wp2_with fail
      refine HX.out.mono ?_
      rintro e w2 ⟨rfl, h2⟩
      have HB2 := Lib.hid (HB.out.trans (h2.mono HB.out.size))
      clear h2 HX HB
      cases hpx : p x
      · have HN := Lib.hid (HT.out.2 hpx)
        clear hpx HT
        go_wp2
        go_roundw
        case rel => exact ⟨j + 1, by omega, by go_num, HN.out, HB2.out⟩
        case measure => simp [RowKit.intOf]; omega
      · have HY := Lib.hid (HT.out.1 hpx)
        clear hpx HT
        go_wp2
        go_ret
        exact ⟨(j : Int), rfl, by rw [HY.out]; exact decide_eq_true (by omega), HB2.out⟩
    · have HN : Hid (l.any p = false) := Lib.hid (by
        have := hA
        rw [List.take_of_length_le (by rw [← HL.out]; omega)] at this
        exact this)
      have HB := Lib.hid hB
      clear hA hB
      go_wp2
      go_ret
      exact ⟨-1, rfl, by rw [HN.out]; rfl, HB.out⟩
set_option maxRecDepth 100000 in
set_option maxHeartbeats 400000 in
theorem hasP_any (bp : Nat) (p : Ex → Bool) (A : Option Addr) (c : Nat) (l : List (Ex)) (w : World) (hs : Sl LX w (· < w.heap.size) A c l) (H : ∀ x ∈ l, ∀ W, Below w.heap.size w W → Calls Tryd.prog 115 #[.agg #[.int .i64 x.op, .int .i64 x.pos, .int .i64 x.n, .string ⟨x.name.toArray⟩, .slice x.A x.l.length x.c], .pointer (some ⟨bp, 0, none⟩)] W fun e W' => e = .returned (.bool (p x)) ∧ Below W.heap.size W W') :
    Calls Tryd.prog 78 #[.slice A l.length c, .func (.func 115) #[] #[.pointer (some ⟨bp, 0, none⟩)]] w fun e w' => e = .returned (.bool (l.any p)) ∧ Below w.heap.size w w' := by
  have HI := Lib.hid (idxP_any bp p A c l w hs H)
  generalize l.any p = r at *
  clear hs H
  go_enter Tryd.func78, Tryd.ntmps78
  go_wp2_with fail
  refine HI.out.mono ?_
  rintro e w2 ⟨i, rfl, hi, h2⟩
  have HR := Lib.hid hi
  have HB := Lib.hid h2
  clear hi h2 HI
  go_wp2
  go_ret
  exact ⟨by rw [← HR.out]; rfl, HB.out⟩

set_option maxRecDepth 100000 in
set_option maxHeartbeats 1000000 in
theorem idxQ_any (p : Qx → Bool) (A : Option Addr) (c : Nat) (l : List (Qx)) (w : World) (hs : Sl LQ w (· < w.heap.size) A c l) (H : ∀ x ∈ l, ∀ W, Below w.heap.size w W → Calls Tryd.prog 76 #[.agg #[.int .i64 x.pos, .slice x.lA x.left.length x.lc, .int .i64 x.e.op, .int .i64 x.e.pos, .int .i64 x.e.n, .string ⟨x.e.name.toArray⟩, .slice x.e.A x.e.l.length x.e.c, .string ⟨x.node.toArray⟩, .slice x.A x.l.length x.c, .string ⟨x.every.toArray⟩]] W fun e W' => e = .returned (.bool (p x)) ∧ Below W.heap.size W W') :
    Calls Tryd.prog 114 #[.slice A l.length c, .func (.func 76) #[] #[]] w fun e w' => ∃ i : Int, e = .returned (.int .i64 i) ∧ decide (0 ≤ i) = l.any p ∧ Below w.heap.size w w' := by
  have HS := Lib.hid hs
  have HH := Lib.hid H
  obtain ⟨len, hln⟩ : ∃ len, len = l.length := ⟨_, rfl⟩
  rw [← hln]
  have HL := Lib.hid hln
  have hlc : len ≤ c := by rw [hln]; exact hs.hd.le
  have hcm : c ≤ 9223372036854775807 := by have := hs.hd.big; simpa [maxLen] using this
  clear hs H hln
  go_enter Tryd.func114, Tryd.ntmps114
  go_wp2_with fail
  go_loopw [8] (fun i wr => ∃ j : Nat, j ≤ len ∧ i = .int .i64 (j : Int) ∧ (l.take j).any p = false ∧ Below w.heap.size w wr) (fun i _ => len - (RowKit.intOf i).toNat)
  case atStart => exact ⟨0, Nat.zero_le _, rfl, rfl, Below.refl _ _⟩
  case round =>
    obtain ⟨j, hj, rfl, hA, hB⟩ := hrel
    by_cases hp : j < len
    · have hjl : j < l.length := by rw [← HL.out]; exact hp
      have hsw := HS.out.below hB
      obtain ⟨bb, oo, rfl, -⟩ := hsw.hd.at_ (by omega)
      obtain ⟨x, hx⟩ : ∃ x, x = l[j] := ⟨_, rfl⟩
      have c0 : wr.cell? ⟨bb, oo + j * 10, none⟩ = some (.int .i64 x.pos) := by rw [hx]; exact hsw.at_ hjl 0 _ (by decide) rfl
      have c1 : wr.cell? ⟨bb, oo + j * 10 + 1, none⟩ = some (.slice x.lA x.left.length x.lc) := by rw [hx]; exact hsw.at_ hjl 1 _ (by decide) rfl
      have c2 : wr.cell? ⟨bb, oo + j * 10 + 2, none⟩ = some (.int .i64 x.e.op) := by rw [hx]; exact hsw.at_ hjl 2 _ (by decide) rfl
      have c3 : wr.cell? ⟨bb, oo + j * 10 + 3, none⟩ = some (.int .i64 x.e.pos) := by rw [hx]; exact hsw.at_ hjl 3 _ (by decide) rfl
      have c4 : wr.cell? ⟨bb, oo + j * 10 + 4, none⟩ = some (.int .i64 x.e.n) := by rw [hx]; exact hsw.at_ hjl 4 _ (by decide) rfl
      have c5 : wr.cell? ⟨bb, oo + j * 10 + 5, none⟩ = some (.string ⟨x.e.name.toArray⟩) := by rw [hx]; exact hsw.at_ hjl 5 _ (by decide) rfl
      have c6 : wr.cell? ⟨bb, oo + j * 10 + 6, none⟩ = some (.slice x.e.A x.e.l.length x.e.c) := by rw [hx]; exact hsw.at_ hjl 6 _ (by decide) rfl
      have c7 : wr.cell? ⟨bb, oo + j * 10 + 7, none⟩ = some (.string ⟨x.node.toArray⟩) := by rw [hx]; exact hsw.at_ hjl 7 _ (by decide) rfl
      have c8 : wr.cell? ⟨bb, oo + j * 10 + 8, none⟩ = some (.slice x.A x.l.length x.c) := by rw [hx]; exact hsw.at_ hjl 8 _ (by decide) rfl
      have c9 : wr.cell? ⟨bb, oo + j * 10 + 9, none⟩ = some (.string ⟨x.every.toArray⟩) := by rw [hx]; exact hsw.at_ hjl 9 _ (by decide) rfl
      have hT := any_take p l j hjl hA
      rw [← hx] at hT
      have HX := Lib.hid (HH.out x (by rw [hx]; exact List.getElem_mem hjl) wr hB)
      have HT := Lib.hid hT
      have HB := Lib.hid hB
      clear hsw hx hT hA hB
      go_wp2_with fail
      refine HX.out.mono ?_
      rintro e w2 ⟨rfl, h2⟩
      have HB2 := Lib.hid (HB.out.trans (h2.mono HB.out.size))
      clear h2 HX HB
      cases hpx : p x
      · have HN := Lib.hid (HT.out.2 hpx)
        clear hpx HT
        go_wp2
        go_roundw
        case rel => exact ⟨j + 1, by omega, by go_num, HN.out, HB2.out⟩
        case measure => simp [RowKit.intOf]; omega
      · have HY := Lib.hid (HT.out.1 hpx)
        clear hpx HT
        go_wp2
        go_ret
        exact ⟨(j : Int), rfl, by rw [HY.out]; exact decide_eq_true (by omega), HB2.out⟩
    · have HN : Hid (l.any p = false) := Lib.hid (by
        have := hA
        rw [List.take_of_length_le (by rw [← HL.out]; omega)] at this
        exact this)
      have HB := Lib.hid hB
      clear hA hB
      go_wp2
      go_ret
      exact ⟨-1, rfl, by rw [HN.out]; rfl, HB.out⟩
set_option maxRecDepth 100000 in
set_option maxHeartbeats 400000 in
theorem hasQ_any (p : Qx → Bool) (A : Option Addr) (c : Nat) (l : List (Qx)) (w : World) (hs : Sl LQ w (· < w.heap.size) A c l) (H : ∀ x ∈ l, ∀ W, Below w.heap.size w W → Calls Tryd.prog 76 #[.agg #[.int .i64 x.pos, .slice x.lA x.left.length x.lc, .int .i64 x.e.op, .int .i64 x.e.pos, .int .i64 x.e.n, .string ⟨x.e.name.toArray⟩, .slice x.e.A x.e.l.length x.e.c, .string ⟨x.node.toArray⟩, .slice x.A x.l.length x.c, .string ⟨x.every.toArray⟩]] W fun e W' => e = .returned (.bool (p x)) ∧ Below W.heap.size W W') :
    Calls Tryd.prog 75 #[.slice A l.length c, .func (.func 76) #[] #[]] w fun e w' => e = .returned (.bool (l.any p)) ∧ Below w.heap.size w w' := by
  have HI := Lib.hid (idxQ_any p A c l w hs H)
  generalize l.any p = r at *
  clear hs H
  go_enter Tryd.func75, Tryd.ntmps75
  go_wp2_with fail
  refine HI.out.mono ?_
  rintro e w2 ⟨i, rfl, hi, h2⟩
  have HR := Lib.hid hi
  have HB := Lib.hid h2
  clear hi h2 HI
  go_wp2
  go_ret
  exact ⟨by rw [← HR.out]; rfl, HB.out⟩

set_option maxRecDepth 100000 in
set_option maxHeartbeats 1000000 in
theorem idxC_any (p : List UInt8 × Bool → Bool) (A : Option Addr) (c : Nat) (l : List (List UInt8 × Bool)) (w : World) (hs : Sl LC w (· < w.heap.size) A c l) (H : ∀ x ∈ l, ∀ W, Below w.heap.size w W → Calls Tryd.prog 82 #[.agg #[.string ⟨x.1.toArray⟩, .bool x.2]] W fun e W' => e = .returned (.bool (p x)) ∧ Below W.heap.size W W') :
    Calls Tryd.prog 118 #[.slice A l.length c, .func (.func 82) #[] #[]] w fun e w' => ∃ i : Int, e = .returned (.int .i64 i) ∧ decide (0 ≤ i) = l.any p ∧ Below w.heap.size w w' := by
  have HS := Lib.hid hs
  have HH := Lib.hid H
  obtain ⟨len, hln⟩ : ∃ len, len = l.length := ⟨_, rfl⟩
  rw [← hln]
  have HL := Lib.hid hln
  have hlc : len ≤ c := by rw [hln]; exact hs.hd.le
  have hcm : c ≤ 9223372036854775807 := by have := hs.hd.big; simpa [maxLen] using this
  clear hs H hln
  go_enter Tryd.func118, Tryd.ntmps118
  go_wp2_with fail
  go_loopw [8] (fun i wr => ∃ j : Nat, j ≤ len ∧ i = .int .i64 (j : Int) ∧ (l.take j).any p = false ∧ Below w.heap.size w wr) (fun i _ => len - (RowKit.intOf i).toNat)
  case atStart => exact ⟨0, Nat.zero_le _, rfl, rfl, Below.refl _ _⟩
  case round =>
    obtain ⟨j, hj, rfl, hA, hB⟩ := hrel
    by_cases hp : j < len
    · have hjl : j < l.length := by rw [← HL.out]; exact hp
      have hsw := HS.out.below hB
      obtain ⟨bb, oo, rfl, -⟩ := hsw.hd.at_ (by omega)
      obtain ⟨x, hx⟩ : ∃ x, x = l[j] := ⟨_, rfl⟩
      have c0 : wr.cell? ⟨bb, oo + j * 2, none⟩ = some (.string ⟨x.1.toArray⟩) := by rw [hx]; exact hsw.at_ hjl 0 _ (by decide) rfl
      have c1 : wr.cell? ⟨bb, oo + j * 2 + 1, none⟩ = some (.bool x.2) := by rw [hx]; exact hsw.at_ hjl 1 _ (by decide) rfl
      have hT := any_take p l j hjl hA
      rw [← hx] at hT
      have HX := Lib.hid (HH.out x (by rw [hx]; exact List.getElem_mem hjl) wr hB)
      have HT := Lib.hid hT
      have HB := Lib.hid hB
      clear hsw hx hT hA hB
      go_wp2_with fail
      refine HX.out.mono ?_
      rintro e w2 ⟨rfl, h2⟩
      have HB2 := Lib.hid (HB.out.trans (h2.mono HB.out.size))
      clear h2 HX HB
      cases hpx : p x
      · have HN := Lib.hid (HT.out.2 hpx)
        clear hpx HT
        go_wp2
        go_roundw
        case rel => exact ⟨j + 1, by omega, by go_num, HN.out, HB2.out⟩
        case measure => simp [RowKit.intOf]; omega
      · have HY := Lib.hid (HT.out.1 hpx)
        clear hpx HT
        go_wp2
        go_ret
        exact ⟨(j : Int), rfl, by rw [HY.out]; exact decide_eq_true (by omega), HB2.out⟩
    · have HN : Hid (l.any p = false) := Lib.hid (by
        have := hA
        rw [List.take_of_length_le (by rw [← HL.out]; omega)] at this
        exact this)
      have HB := Lib.hid hB
      clear hA hB
      go_wp2
      go_ret
      exact ⟨-1, rfl, by rw [HN.out]; rfl, HB.out⟩
set_option maxRecDepth 100000 in
set_option maxHeartbeats 400000 in
theorem hasC_any (p : List UInt8 × Bool → Bool) (A : Option Addr) (c : Nat) (l : List (List UInt8 × Bool)) (w : World) (hs : Sl LC w (· < w.heap.size) A c l) (H : ∀ x ∈ l, ∀ W, Below w.heap.size w W → Calls Tryd.prog 82 #[.agg #[.string ⟨x.1.toArray⟩, .bool x.2]] W fun e W' => e = .returned (.bool (p x)) ∧ Below W.heap.size W W') :
    Calls Tryd.prog 81 #[.slice A l.length c, .func (.func 82) #[] #[]] w fun e w' => e = .returned (.bool (l.any p)) ∧ Below w.heap.size w w' := by
  have HI := Lib.hid (idxC_any p A c l w hs H)
  generalize l.any p = r at *
  clear hs H
  go_enter Tryd.func81, Tryd.ntmps81
  go_wp2_with fail
  refine HI.out.mono ?_
  rintro e w2 ⟨i, rfl, hi, h2⟩
  have HR := Lib.hid hi
  have HB := Lib.hid h2
  clear hi h2 HI
  go_wp2
  go_ret
  exact ⟨by rw [← HR.out]; rfl, HB.out⟩

set_option maxRecDepth 100000 in
set_option maxHeartbeats 1000000 in
theorem idxS_any (p : List UInt8 → Bool) (A : Option Addr) (c : Nat) (l : List (List UInt8)) (w : World) (hs : Sl LN w (· < w.heap.size) A c l) (H : ∀ x ∈ l, ∀ W, Below w.heap.size w W → Calls Tryd.prog 30 #[.string ⟨x.toArray⟩] W fun e W' => e = .returned (.bool (p x)) ∧ Below W.heap.size W W') :
    Calls Tryd.prog 119 #[.slice A l.length c, .func (.func 30) #[] #[]] w fun e w' => ∃ i : Int, e = .returned (.int .i64 i) ∧ decide (0 ≤ i) = l.any p ∧ Below w.heap.size w w' := by
  have HS := Lib.hid hs
  have HH := Lib.hid H
  obtain ⟨len, hln⟩ : ∃ len, len = l.length := ⟨_, rfl⟩
  rw [← hln]
  have HL := Lib.hid hln
  have hlc : len ≤ c := by rw [hln]; exact hs.hd.le
  have hcm : c ≤ 9223372036854775807 := by have := hs.hd.big; simpa [maxLen] using this
  clear hs H hln
  go_enter Tryd.func119, Tryd.ntmps119
  go_wp2_with fail
  go_loopw [8] (fun i wr => ∃ j : Nat, j ≤ len ∧ i = .int .i64 (j : Int) ∧ (l.take j).any p = false ∧ Below w.heap.size w wr) (fun i _ => len - (RowKit.intOf i).toNat)
  case atStart => exact ⟨0, Nat.zero_le _, rfl, rfl, Below.refl _ _⟩
  case round =>
    obtain ⟨j, hj, rfl, hA, hB⟩ := hrel
    by_cases hp : j < len
    · have hjl : j < l.length := by rw [← HL.out]; exact hp
      have hsw := HS.out.below hB
      obtain ⟨bb, oo, rfl, -⟩ := hsw.hd.at_ (by omega)
      obtain ⟨x, hx⟩ : ∃ x, x = l[j] := ⟨_, rfl⟩
      have c0 : wr.cell? ⟨bb, oo + j, none⟩ = some (.string ⟨x.toArray⟩) := by rw [hx]; have h := hsw.at_ hjl 0 _ (by decide) rfl; rw [show LN.n = 1 from rfl, Nat.mul_one, Nat.add_zero] at h; exact h
      have hT := any_take p l j hjl hA
      rw [← hx] at hT
      have HX := Lib.hid (HH.out x (by rw [hx]; exact List.getElem_mem hjl) wr hB)
      have HT := Lib.hid hT
      have HB := Lib.hid hB
      clear hsw hx hT hA hB
      go_wp2_with fail
      refine HX.out.mono ?_
      rintro e w2 ⟨rfl, h2⟩
      have HB2 := Lib.hid (HB.out.trans (h2.mono HB.out.size))
      clear h2 HX HB
      cases hpx : p x
      · have HN := Lib.hid (HT.out.2 hpx)
        clear hpx HT
        go_wp2
        go_roundw
        case rel => exact ⟨j + 1, by omega, by go_num, HN.out, HB2.out⟩
        case measure => simp [RowKit.intOf]; omega
      · have HY := Lib.hid (HT.out.1 hpx)
        clear hpx HT
        go_wp2
        go_ret
        exact ⟨(j : Int), rfl, by rw [HY.out]; exact decide_eq_true (by omega), HB2.out⟩
    · have HN : Hid (l.any p = false) := Lib.hid (by
        have := hA
        rw [List.take_of_length_le (by rw [← HL.out]; omega)] at this
        exact this)
      have HB := Lib.hid hB
      clear hA hB
      go_wp2
      go_ret
      exact ⟨-1, rfl, by rw [HN.out]; rfl, HB.out⟩
set_option maxRecDepth 100000 in
set_option maxHeartbeats 400000 in
theorem hasS_any (p : List UInt8 → Bool) (A : Option Addr) (c : Nat) (l : List (List UInt8)) (w : World) (hs : Sl LN w (· < w.heap.size) A c l) (H : ∀ x ∈ l, ∀ W, Below w.heap.size w W → Calls Tryd.prog 30 #[.string ⟨x.toArray⟩] W fun e W' => e = .returned (.bool (p x)) ∧ Below W.heap.size W W') :
    Calls Tryd.prog 83 #[.slice A l.length c, .func (.func 30) #[] #[]] w fun e w' => e = .returned (.bool (l.any p)) ∧ Below w.heap.size w w' := by
  have HI := Lib.hid (idxS_any p A c l w hs H)
  generalize l.any p = r at *
  clear hs H
  go_enter Tryd.func83, Tryd.ntmps83
  go_wp2_with fail
  refine HI.out.mono ?_
  rintro e w2 ⟨i, rfl, hi, h2⟩
  have HR := Lib.hid hi
  have HB := Lib.hid h2
  clear hi h2 HI
  go_wp2
  go_ret
  exact ⟨by rw [← HR.out]; rfl, HB.out⟩
end Go.Proofs.YtacmibkcnmaagaaDoor
