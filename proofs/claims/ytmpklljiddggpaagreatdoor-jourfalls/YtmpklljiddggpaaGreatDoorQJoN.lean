/-
  The walks of jour's first, of a head's encoding, of readHead and readSectors. Conditions: each theorem's own premises.
-/
import Derived.Test.YtmpklljiddggpaaGreatDoorQJoJ
import Derived.Test.YtmpklljiddggpaaGreatDoorQRdr
namespace Go.Proofs.YtmpklljiddggpaaGreatDoor
open Go.Shelf Go.RowKit Go.Lib Go.Sort

theorem Dk.below {w w' : World} {g f m : Nat} {s : DS} (h : Dk w g f m s) (hb : Below w.heap.size w w') : Dk w' g f m s := h.fr ((Fr.refl [] w).belows hb (Nat.le_refl _)) (by simp) (by simp) (by simp)

set_option maxRecDepth 100000 in
set_option maxHeartbeats 1000000 in
theorem first_any (h : Hd) (g f m : Nat) (s : DS) (w : World) (hD : Dk w g f m s) (hh : h.half ≤ 1) :
    Calls Tryz.prog 52 #[.agg #[.int .i64 h.age, .int .i64 (h.half : Int), .int .i64 (h.used : Int)], .pointer (some ⟨g, 0, none⟩)] w fun e w' => e = .returned (.int .i64 (h.first s.kept.length : Int)) ∧ Below w.heap.size w w' := by
  have h3B : Below w.heap.size w (w.alloc (.cells #[.int .i64 h.age, .int .i64 (h.half : Int), .int .i64 (h.used : Int)] 68)) := (Below.refl _ w).alloc (Nat.le_refl _) _
  have h3b : Blk (w.alloc (.cells #[.int .i64 h.age, .int .i64 (h.half : Int), .int .i64 (h.used : Int)] 68)) w.heap.size 68 #[.int .i64 h.age, .int .i64 (h.half : Int), .int .i64 (h.used : Int)] := heap_alloc_new w _
  have hD3 := hD.below h3B
  have hn1 := hD.n1
  have hnm := hD.nm
  have HB3 := Lib.hid h3B
  have hrn : roomN s.kept.length ≤ 8192 := by unfold roomN; omega
  have hmul : h.half * roomN s.kept.length ≤ 8192 := Nat.le_trans (Nat.mul_le_mul_right _ hh) (by omega)
  have hfI : (1 : Int) + (h.half : Int) * (roomN s.kept.length : Int) = (h.first s.kept.length : Int) := by unfold Hd.first; rw [Int.natCast_add, Int.natCast_mul]; rfl
  have hmI : (h.half : Int) * (roomN s.kept.length : Int) ≤ 8192 := by rw [← Int.natCast_mul]; omega
  have hm0 : 0 ≤ (h.half : Int) * (roomN s.kept.length : Int) := by rw [← Int.natCast_mul]; omega
  clear hD h3B
  go_enter Tryz.func52, Tryz.ntmps52
  go_wp2_with fail
  generalize (w.alloc (.cells #[.int .i64 h.age, .int .i64 (h.half : Int), .int .i64 (h.used : Int)] 68)) = W at *
  obtain ⟨k, hH, _⟩ := hD3.head
  have hr := fun n => room_any g f m s.kept.length k s.calls s.armed s.down (W.drewN n) hH hn1 hnm
  have b1 : W.cell? ⟨w.heap.size, 1, none⟩ = some (.int .i64 (h.half : Int)) := h3b.cell 1
  have HF := Lib.hid hfI
  generalize roomN s.kept.length = R at *
  have q1 : IntKind.i64.wrap ((h.half : Int) * (R : Int)) = (h.half : Int) * (R : Int) := by rw [IntKind.wrap_i64]; omega
  have q2 : IntKind.i64.wrap (1 + (h.half : Int) * (R : Int)) = 1 + (h.half : Int) * (R : Int) := by rw [IntKind.wrap_i64]; omega
  clear hD3 hH hfI h3b
  go_quiet ((go_at_call 48; exact Calls.quiet_of ((hr _).mono fun e w' hx => ⟨hx.1, 0, hx.2.symm⟩)))
  go_wp2
  go_ret
  exact ⟨ret_int HF.out, HB3.out.trans ((bl_drew W nq).mono HB3.out.size)⟩

set_option maxRecDepth 100000 in
set_option maxHeartbeats 1000000 in
theorem henc_any (h : Hd) (w : World) (ha : 0 ≤ h.age ∧ h.age ≤ 9223372036854775807) (hh : h.half ≤ 1) (hu : h.used ≤ 16384) :
    Calls Tryz.prog 54 #[.agg #[.int .i64 h.age, .int .i64 (h.half : Int), .int .i64 (h.used : Int)]] w (RetBytes w w.heap.size (encH h)) := by
  have h3B : Below w.heap.size w (w.alloc (.cells #[.int .i64 h.age, .int .i64 (h.half : Int), .int .i64 (h.used : Int)] 68)) := (Below.refl _ w).alloc (Nat.le_refl _) _
  have h3b : Blk (w.alloc (.cells #[.int .i64 h.age, .int .i64 (h.half : Int), .int .i64 (h.used : Int)] 68)) w.heap.size 68 #[.int .i64 h.age, .int .i64 (h.half : Int), .int .i64 (h.used : Int)] := heap_alloc_new w _
  have HB3 := Lib.hid h3B
  have hl1 := enc_length h.age
  have hl2 := enc_length (h.half : Int)
  clear h3B
  go_enter Tryz.func54, Tryz.ntmps54
  go_wp2_with fail
  generalize (w.alloc (.cells #[.int .i64 h.age, .int .i64 (h.half : Int), .int .i64 (h.used : Int)] 68)) = W at *
  have b0 : W.cell? ⟨w.heap.size, 0, none⟩ = some (.int .i64 h.age) := h3b.cell 0
  have b1 : W.cell? ⟨w.heap.size, 1, none⟩ = some (.int .i64 (h.half : Int)) := h3b.cell 1
  have b2 : W.cell? ⟨w.heap.size, 2, none⟩ = some (.int .i64 (h.used : Int)) := h3b.cell 2
  have hWl := h3b.lt
  have hp1 := put_any none 0 0 [] h.age W.drew rfl (by omega) Str.nil (by omega) (by omega)
  obtain ⟨x0, hx0⟩ : ∃ x0, x0 = h.age := ⟨_, rfl⟩
  obtain ⟨x1, hx1⟩ : ∃ x1 : Int, x1 = (h.half : Int) := ⟨_, rfl⟩
  obtain ⟨x2, hx2⟩ : ∃ x2 : Int, x2 = (h.used : Int) := ⟨_, rfl⟩
  have HX : Hid (encH h = ([] ++ enc x0) ++ enc x1 ++ enc x2) := Lib.hid (by rw [hx0, hx1, hx2]; rfl)
  have hx1b : -9223372036854775808 ≤ x1 ∧ x1 ≤ 9223372036854775807 := by omega
  have hx2b : -9223372036854775808 ≤ x2 ∧ x2 ≤ 9223372036854775807 := by omega
  have ln0 : ([] ++ enc x0).length ≤ 10 := by rw [hx0]; simpa using hl1
  have ln1 : ([] ++ enc x0 ++ enc x1).length ≤ 20 := by rw [List.length_append, hx1]; omega
  rw [← hx0] at b0 hp1
  rw [← hx1] at b1
  rw [← hx2] at b2
  clear hx0 hx1 hx2 h3b hl1 hl2
  go_region_held3 (fun W => W.cell? ⟨w.heap.size, 0, none⟩ = some (.int .i64 x0) ∧ W.cell? ⟨w.heap.size, 1, none⟩ = some (.int .i64 x1) ∧ W.cell? ⟨w.heap.size, 2, none⟩ = some (.int .i64 x2)) (go_keep)
    (first
      | (go_at_call_of 78 (Value.int .i64 x0); refine hp1.mono ?_; rintro e w2 ⟨A2, n2, c2, rfl, HN2, ho2, hB2⟩; have k0 := (hB2.cell (p := ⟨w.heap.size, 0, none⟩) hWl).trans b0; have k1 := (hB2.cell (p := ⟨w.heap.size, 1, none⟩) hWl).trans b1; have k2 := (hB2.cell (p := ⟨w.heap.size, 2, none⟩) hWl).trans b2; have HO2 := Lib.hid ho2; have HB2 := Lib.hid (HB3.out.trans (((bl_drew W 1).mono HB3.out.size).trans (hB2.mono HB3.out.size))); have hn2 : n2 ≤ 10 := (by have := HN2.out; omega); have hW2 : w.heap.size < w2.heap.size := Nat.lt_of_lt_of_le hWl hB2.size; clear ho2 hB2)
      | (go_at_call_of 78 (Value.int .i64 x1); refine (put_any A2 n2 c2 ([] ++ enc x0) x1 w2 HN2.out (by omega) HO2.out.str (by omega) (by omega)).mono ?_; rintro e w3 ⟨A3, n3, c3, rfl, HN3, ho3, hB3⟩; have m0 := (hB3.cell (p := ⟨w.heap.size, 0, none⟩) hW2).trans k0; have m1 := (hB3.cell (p := ⟨w.heap.size, 1, none⟩) hW2).trans k1; have m2 := (hB3.cell (p := ⟨w.heap.size, 2, none⟩) hW2).trans k2; have HO3 := Lib.hid ho3; have HB3' := Lib.hid (HB2.out.trans (hB3.mono HB2.out.size)); have hn3 : n3 ≤ 20 := (by have := HN3.out; omega); have hW3 : w.heap.size < w3.heap.size := Nat.lt_of_lt_of_le hW2 hB3.size; clear ho3 hB3)
      | (go_at_call 78; refine (put_any A3 n3 c3 ([] ++ enc x0 ++ enc x1) x2 w3 HN3.out (by omega) HO3.out.str (by omega) (by omega)).mono ?_; rintro e w4 ⟨A4, n4, c4, rfl, HN4, ho4, hB4⟩; have r0 := (hB4.cell (p := ⟨w.heap.size, 0, none⟩) hW3).trans m0; have r1 := (hB4.cell (p := ⟨w.heap.size, 1, none⟩) hW3).trans m1; have r2 := (hB4.cell (p := ⟨w.heap.size, 2, none⟩) hW3).trans m2; have HO4 := Lib.hid ho4; have HB4 := Lib.hid (HB3'.out.trans (hB4.mono HB3'.out.size)); clear ho4 hB4))
  go_wp2
  go_ret
  rw [HX.out]
  exact ⟨A4, n4, c4, rfl, HN4, HO4.out.mono (HB3'.out.size), HB4.out⟩
end Go.Proofs.YtmpklljiddggpaaGreatDoor

/-
  The walks of jour's readHead and readSectors. Conditions: each theorem's own premises.
-/
namespace Go.Proofs.YtmpklljiddggpaaGreatDoor
open Go.Shelf Go.RowKit Go.Lib Go.Sort

/-- What a reader's call that goes well leaves. -/
def RetRd (w : World) (g : Nat) (l : List UInt8) (k' : Nat) (v : Value) (e : Ending) (w' : World) : Prop := e = .returned v ∧ w.grownBy w' (some g) ∧ Rd w' g l k' .nilIface
theorem num_rd (g : Nat) (l rest : List UInt8) (k k' : Nat) (x lo hi : Int) (w : World) (aE aS aR : Addr) (hr : Rd w g l k .nilIface) (he : Errs w aE aS aR) (hl : l.drop k = enc x ++ rest) (hk : k' = k + (enc x).length)
    (h1 : -9223372036854775808 ≤ x) (h2 : x ≤ 9223372036854775807) (h3 : lo ≤ x) (h4 : x ≤ hi) :
    Calls Tryz.prog 62 #[.pointer (some ⟨g, 0, none⟩), .int .i64 lo, .int .i64 hi] w (RetRd w g l k' (.int .i64 x)) := by
  have h := num_ok g l k lo hi w aE aS aR hr he
  rw [hl, numOf_enc x lo hi rest h1 h2 h3 h4] at h
  refine h.mono fun e w' ⟨he, hg, hc⟩ => ⟨he, hg, ?_⟩
  rcases hc with ⟨_, hr'⟩ | ⟨hc, _⟩
  · rw [hk]; exact hr'
  · exact absurd rfl hc
theorem text_rd (g : Nat) (l t rest : List UInt8) (k k' : Nat) (m : Int) (w : World) (aE aS aR : Addr) (hr : Rd w g l k .nilIface) (he : Errs w aE aS aR) (hl : l.drop k = encT t ++ rest) (hk : k' = k + (encT t).length)
    (h1 : (t.length : Int) ≤ m) (hm : m ≤ 4294967296) :
    Calls Tryz.prog 65 #[.pointer (some ⟨g, 0, none⟩), .int .i64 m] w (RetRd w g l k' (.string ⟨t.toArray⟩)) := by
  have h := text_ok g l k m w aE aS aR hr he hm
  rw [hl, textOf_enc t rest m h1 hm] at h
  refine h.mono fun e w' ⟨he, hg, hc⟩ => ⟨he, hg, ?_⟩
  rcases hc with ⟨_, hr'⟩ | ⟨hc, _⟩
  · rw [hk]; exact hr'
  · exact absurd rfl hc
theorem Errs.grown {w w' : World} {aE aS aR : Addr} {r : Option Nat} (h : Errs w aE aS aR) (hg : w.grownBy w' r) (hr : ∀ j, r = some j → 4 < j ∧ 5 < j ∧ 1 < j) : Errs w' aE aS aR := by
  have go : ∀ (b : Nat) (v : Value), w.cell? ⟨b, 0, none⟩ = some v → (∀ j, r = some j → b < j) → w'.cell? ⟨b, 0, none⟩ = some v := fun b v hv hb =>
    (hg.cell_far ⟨b, 0, none⟩ (World.block_lt_of_cell? w _ hv) (fun e => by have := hb b e.symm; omega)).trans hv
  exact ⟨go _ _ h.e fun j hj => (hr j hj).1, go _ _ h.s fun j hj => (hr j hj).2.1, go _ _ h.r fun j hj => (hr j hj).2.2⟩
theorem Errs.below {w w' : World} {B : Nat} {aE aS aR : Addr} (h : Errs w aE aS aR) (hg : Below B w w') (hB : w.heap.size ≤ B) : Errs w' aE aS aR :=
  ⟨cell_below h.e hg hB, cell_below h.s hg hB, cell_below h.r hg hB⟩
theorem Errs.fr {w w' : World} {aE aS aR : Addr} {S : List Nat} (h : Errs w aE aS aR) (k : Fr S w w') (hs : ∀ x ∈ S, 4 < x ∧ 5 < x ∧ 1 < x) : Errs w' aE aS aR := by
  have go : ∀ (b : Nat) (v : Value), w.cell? ⟨b, 0, none⟩ = some v → (∀ x ∈ S, b < x) → w'.cell? ⟨b, 0, none⟩ = some v := fun b v hv hb =>
    (World.cell?_of_block (a := ⟨b, 0, none⟩) (k.block b (World.block_lt_of_cell? w _ hv) (fun hx => by have := hb b hx; omega))).trans hv
  exact ⟨go _ _ h.e fun x hx => (hs x hx).1, go _ _ h.s fun x hx => (hs x hx).2.1, go _ _ h.r fun x hx => (hs x hx).2.2⟩
theorem Errs.low {w : World} {aE aS aR : Addr} (h : Errs w aE aS aR) : 4 < w.heap.size ∧ 5 < w.heap.size ∧ 1 < w.heap.size :=
  ⟨World.block_lt_of_cell? w _ h.e, World.block_lt_of_cell? w _ h.s, World.block_lt_of_cell? w _ h.r⟩
theorem Rd.fr {S : List Nat} {w w' : World} {g : Nat} {l : List UInt8} {k : Nat} {er : Value} (h : Rd w g l k er) (f : Fr S w w') (hS : ∀ x ∈ S, g < x) : Rd w' g l k er := by
  obtain ⟨A, n, c, hb, hn, hs, h1⟩ := h
  have hlt : g < w.heap.size := (Array.getElem?_eq_some_iff.1 hb).1
  have hg : g ∉ S := fun hx => by have := hS g hx; omega
  exact ⟨A, n, c, (f.block g hlt hg).trans hb, hn, hs.fr f (Nat.le_of_lt hlt) (fun x hx => Nat.le_of_lt (hS x hx)), h1⟩
theorem Rd.lt {w : World} {g : Nat} {l : List UInt8} {k : Nat} {er : Value} (h : Rd w g l k er) : g < w.heap.size := by
  obtain ⟨A, n, c, hb, _⟩ := h
  exact (Array.getElem?_eq_some_iff.1 hb).1
theorem Dk.grown {w w' : World} {g f m b : Nat} {s : DS} (h : Dk w g f m s) (hb : w.grownBy w' (some b)) (h1 : g < b) (h2 : f < b) (h3 : m < b) : Dk w' g f m s :=
  h.fr ((Fr.refl [b] w).grown hb (by simp)) (by simp; omega) (by simp; omega) (by simp; omega)
/-- A head as a value. -/
def hdV (h : Hd) : Value := .agg #[.int .i64 h.age, .int .i64 (h.half : Int), .int .i64 (h.used : Int)]
/-- What readHead leaves. -/
def RetHd (h : Hd) (w : World) (e : Ending) (w' : World) : Prop := e = .returned (.tuple #[hdV h, .nilIface]) ∧ Below w.heap.size w w'

set_option maxRecDepth 100000 in
set_option maxHeartbeats 2000000 in
theorem readHead_some (h : Hd) (g f m : Nat) (s : DS) (w : World) (aE aS aR : Addr) (hD : Dk w g f m s) (he : Errs w aE aS aR) (hdn : s.down = false) (hlook : lookD s 0 = some (encH h)) (ha : 0 ≤ h.age ∧ h.age ≤ 9223372036854775807) (hh : h.half ≤ 1) (hu : h.used ≤ roomN s.kept.length) :
    Calls Tryz.prog 36 #[.pointer (some ⟨g, 0, none⟩)] w (RetHd h w) := by
  have h0B : Below w.heap.size w (w.alloc (.cells #[.int .i64 0, .int .i64 0, .int .i64 0] 68)) := (Below.refl _ w).alloc (Nat.le_refl _) _
  have h0b : Blk (w.alloc (.cells #[.int .i64 0, .int .i64 0, .int .i64 0] 68)) w.heap.size 68 #[.int .i64 0, .int .i64 0, .int .i64 0] := heap_alloc_new w _
  have hrd := read_ok g f m s 0 (w.alloc (.cells #[.int .i64 0, .int .i64 0, .int .i64 0] 68)) (hD.below h0B) hdn (by have := hD.n1; omega)
  rw [hlook] at hrd
  have HRd := Lib.hid hrd
  have HB0 := Lib.hid h0B
  have Hb0 := Lib.hid h0b
  have HE := Lib.hid he
  have HD := Lib.hid hD
  have hlen := encH_length h
  have hn1 := hD.n1
  have hnm := hD.nm
  have hrn : roomN s.kept.length ≤ 8192 := by unfold roomN; omega
  clear hrd h0B h0b he hlook hD
  go_enter Tryz.func36, Tryz.ntmps36
  go_wp2_with fail
  refine HRd.out.mono ?_
  rintro e w1 ⟨hB1, A1, c1, rfl, hA1, hS1, _, _⟩
  have HB1 := Lib.hid (HB0.out.trans (hB1.mono HB0.out.size))
  have Hb1 := Lib.hid (Hb0.out.below hB1 Hb0.out.lt)
  have hnr := newReader_any (some ⟨A1, 0, none⟩) (encH h).length c1 (encH h) w1 rfl (by omega) hS1
  have HNR := Lib.hid hnr
  clear hB1 hS1 hnr HRd HB0 Hb0
  go_wp2_with fail
  refine HNR.out.mono ?_
  rintro e w2 ⟨rg, rfl, hR2, _, hrg, hB2⟩
  have HB2 := Lib.hid (HB1.out.trans (hB2.mono HB1.out.size))
  have Hb2 := Lib.hid (Hb1.out.below hB2 Hb1.out.lt)
  have hwr : w.heap.size < rg := Nat.lt_of_lt_of_le Hb1.out.lt hrg
  have HE2 := Lib.hid (HE.out.below HB2.out (Nat.le_refl _))
  have hlow := HE.out.low
  have HR2 := Lib.hid hR2
  have HN2 := Lib.hid (num_rd rg (encH h) (enc (h.half : Int) ++ enc (h.used : Int)) 0 (enc h.age).length h.age (-9223372036854775808) 9223372036854775807 w2 aE aS aR hR2 HE2.out (by rw [List.drop_zero]; unfold encH; rw [List.append_assoc]) (by omega) (by omega) (by omega) (by omega) (by omega))
  clear hR2 hB2 HNR Hb1
  go_wp2_with fail
  refine HN2.out.mono ?_
  rintro e w3 ⟨rfl, hG3, hR3⟩
  have hs3 := hG3.size
  have HB3 := Lib.hid (HB2.out.grown hG3 HB2.out.size (fun j hj => by cases hj; omega))
  have Hb3 := Lib.hid (Hb2.out.grown hG3 (by simp; omega))
  have HE3 := Lib.hid (HE2.out.grown hG3 (fun j hj => by cases hj; omega))
  have HR3 := Lib.hid hR3
  clear hR3 hG3 HN2 HE2 HR2
  have hrl := HR3.out.lt
  have h4b : Blk (w3.alloc (.cells #[.int .i64 h.age, .int .i64 0, .int .i64 0] 68)) w3.heap.size 68 #[.int .i64 h.age, .int .i64 0, .int .i64 0] := heap_alloc_new w3 _
  have h4B : Below w3.heap.size w3 (w3.alloc (.cells #[.int .i64 h.age, .int .i64 0, .int .i64 0] 68)) := (Below.refl _ w3).alloc (Nat.le_refl _) _
  have HB4 := Lib.hid (HB3.out.trans (h4B.mono HB3.out.size))
  have Hb4 := Lib.hid (Hb3.out.below h4B Hb3.out.lt)
  have Hx4 := Lib.hid h4b
  have HE4 := Lib.hid (HE3.out.below h4B (Nat.le_refl _))
  have HR4 := Lib.hid (HR3.out.fr ((Fr.refl [] w3).belows h4B (Nat.le_refl _)) (by simp))
  have HN4 := Lib.hid (num_rd rg (encH h) (enc (h.used : Int)) (enc h.age).length ((enc h.age).length + (enc (h.half : Int)).length) (h.half : Int) 0 1 _ aE aS aR HR4.out HE4.out (by unfold encH; rw [List.append_assoc, List.drop_left]) rfl (by omega) (by omega) (by omega) (by omega))
  clear h4b h4B
  go_wp2_with fail
  refine HN4.out.mono ?_
  rintro e w5 ⟨rfl, hG5, hR5⟩
  have hs5 := hG5.size
  have hx5 := Hx4.out.grown hG5 (by simp; omega)
  have HB5 := Lib.hid (HB4.out.grown hG5 HB4.out.size (fun j hj => by cases hj; omega))
  have Hb5 := Lib.hid (Hb4.out.grown hG5 (by simp; omega))
  have HE5 := Lib.hid (HE4.out.grown hG5 (fun j hj => by cases hj; omega))
  have Hx5 := Lib.hid hx5
  have c51 : w5.cell? ⟨w3.heap.size, 1, none⟩ = some (.int .i64 0) := hx5.cell 1
  have z51 := hx5.free 1
  -- the half is laid down
  have hF6 : Fr [w3.heap.size] w5 (w5.setCell ⟨w3.heap.size, 1, none⟩ (.int .i64 (h.half : Int))) := (Fr.refl _ w5).set (.inl (by simp)) _
  have HB6 := Lib.hid (HB5.out.setCell (p := ⟨w3.heap.size, 1, none⟩) (show w.heap.size ≤ w3.heap.size by omega) (.int .i64 (h.half : Int)))
  have Hb6 := Lib.hid (Hb5.out.fr hF6 (by simp; omega))
  have Hx6 := Lib.hid (hx5.set 1 (.int .i64 (h.half : Int)))
  have HR6 := Lib.hid (hR5.fr hF6 (by simp; omega))
  have HE6 := Lib.hid (HE5.out.fr hF6 (by simp; omega))
  have hD6 := HD.out.below HB6.out
  obtain ⟨kc, hH6, _⟩ := hD6.head
  have HRm := Lib.hid (room_any g f m s.kept.length kc s.calls s.armed s.down _ hH6 hn1 hnm)
  have HN6 := Lib.hid (num_rd rg (encH h) [] ((enc h.age).length + (enc (h.half : Int)).length) (encH h).length (h.used : Int) 0 (roomN s.kept.length : Int) _ aE aS aR HR6.out HE6.out (by unfold encH; rw [← List.length_append, List.drop_left, List.append_nil]) (by unfold encH; simp [Nat.add_assoc]) (by omega) (by omega) (by omega) (by omega))
  clear hR5 hG5 hx5 hF6 hD6 hH6 HN4 HR4 HE4 Hx4
  go_wp2_with fail
  refine HRm.out.mono ?_
  rintro e w6 ⟨rfl, rfl⟩
  go_wp2_with fail
  refine HN6.out.mono ?_
  rintro e w7 ⟨rfl, hG7, hR7⟩
  have hs6 : (w5.setCell ⟨w3.heap.size, 1, none⟩ (.int .i64 (h.half : Int))).heap.size = w5.heap.size := by simp
  have hs7 := hG7.size
  have hx7 := Hx6.out.grown hG7 (by simp; omega)
  have HB7 := Lib.hid (HB6.out.grown hG7 HB6.out.size (fun j hj => by cases hj; omega))
  have Hb7 := Lib.hid (Hb6.out.grown hG7 (by simp; omega))
  have c72 : w7.cell? ⟨w3.heap.size, 2, none⟩ = some (.int .i64 0) := hx7.cell 2
  have z72 := hx7.free 2
  have hF8 : Fr [w3.heap.size] w7 (w7.setCell ⟨w3.heap.size, 2, none⟩ (.int .i64 (h.used : Int))) := (Fr.refl _ w7).set (.inl (by simp)) _
  have HB8 := Lib.hid (HB7.out.setCell (p := ⟨w3.heap.size, 2, none⟩) (show w.heap.size ≤ w3.heap.size by omega) (.int .i64 (h.used : Int)))
  have Hb8 := Lib.hid (Hb7.out.fr hF8 (by simp; omega))
  have Hx8 := Lib.hid (hx7.set 2 (.int .i64 (h.used : Int)))
  have hR8 := hR7.fr hF8 (by simp; omega)
  have HEr := Lib.hid (err_nil rg (encH h) (encH h).length _ hR8)
  have HLf := Lib.hid (left_any rg (encH h) (encH h).length .nilIface _ hR8)
  clear hR7 hG7 hx7 hF8 hR8 HN6 HR6 HE6 HRm Hx6 Hb6 c51 z51 Hx5 Hb5 HB5 HE5
  go_wp2_with fail
  refine HEr.out.mono ?_
  rintro e w8 ⟨rfl, rfl⟩
  go_wp2_with fail
  refine HLf.out.mono ?_
  rintro e w9 ⟨rfl, q, rfl⟩
  have hx9 : Blk ((w7.setCell ⟨w3.heap.size, 2, none⟩ (.int .i64 (h.used : Int))).drewN q) w3.heap.size 68 #[.int .i64 h.age, .int .i64 (h.half : Int), .int .i64 (h.used : Int)] := Hx8.out
  have hb9 : Blk ((w7.setCell ⟨w3.heap.size, 2, none⟩ (.int .i64 (h.used : Int))).drewN q) w.heap.size 68 #[.int .i64 0, .int .i64 0, .int .i64 0] := Hb8.out
  have HB9 := Lib.hid (HB8.out.trans ((bl_drew _ q).mono HB8.out.size))
  clear HEr HLf Hx8 Hb8 c72 z72 HB7 Hb7
  generalize (w7.setCell ⟨w3.heap.size, 2, none⟩ (.int .i64 (h.used : Int))).drewN q = W9 at *
  have d0 : W9.cell? ⟨w3.heap.size, 0, none⟩ = some (.int .i64 h.age) := hx9.cell 0
  have d1 : W9.cell? ⟨w3.heap.size, 1, none⟩ = some (.int .i64 (h.half : Int)) := hx9.cell 1
  have d2 : W9.cell? ⟨w3.heap.size, 2, none⟩ = some (.int .i64 (h.used : Int)) := hx9.cell 2
  have e0 : W9.cell? ⟨w.heap.size, 0, none⟩ = some (.int .i64 0) := hb9.cell 0
  have e1 : W9.cell? ⟨w.heap.size, 1, none⟩ = some (.int .i64 0) := hb9.cell 1
  have e2 : W9.cell? ⟨w.heap.size, 2, none⟩ = some (.int .i64 0) := hb9.cell 2
  have y0 := hb9.free 0
  have y1 := hb9.free 1
  have y2 := hb9.free 2
  have hbz := hb9.lt
  have hFin := ((hb9.set 0 (.int .i64 h.age)).set 1 (.int .i64 (h.half : Int))).set 2 (.int .i64 (h.used : Int))
  have hBF := ((HB9.out.setCell (p := ⟨w.heap.size, 0, none⟩) (Nat.le_refl _) (.int .i64 h.age)).setCell (p := ⟨w.heap.size, 1, none⟩) (Nat.le_refl _) (.int .i64 (h.half : Int))).setCell (p := ⟨w.heap.size, 2, none⟩) (Nat.le_refl _) (.int .i64 (h.used : Int))
  have HFin := Lib.hid hFin
  have HBF := Lib.hid hBF
  clear hx9 hb9 hFin hBF
  go_wp2
  have g0 := HFin.out.cell 0
  have g1 := HFin.out.cell 1
  have g2 := HFin.out.cell 2
  have g0 : _ = some (Value.int .i64 h.age) := g0
  have g1 : _ = some (Value.int .i64 (h.half : Int)) := g1
  have g2 : _ = some (Value.int .i64 (h.used : Int)) := g2
  have hbF := HBF.out
  clear d0 d1 d2 e0 e1 e2 y0 y1 y2 HFin HBF
  generalize ((W9.setCell ⟨w.heap.size, 0, none⟩ (.int .i64 h.age)).setCell ⟨w.heap.size, 1, none⟩ (.int .i64 (h.half : Int))).setCell ⟨w.heap.size, 2, none⟩ (.int .i64 (h.used : Int)) = wF at *
  exact bodyPost_ret (v := .tuple #[hdV h, .nilIface]) (by simp [results, Tryz.results36, go_sem, g0, g1, g2, hdV]) rfl ⟨rfl, hbF⟩
end Go.Proofs.YtmpklljiddggpaaGreatDoor

/-
  The walks of jour's readHead on a disk that was never written, and of readSectors. Conditions: each theorem's own premises.
-/
namespace Go.Proofs.YtmpklljiddggpaaGreatDoor
open Go.Shelf Go.RowKit Go.Lib Go.Sort

set_option maxRecDepth 100000 in
set_option maxHeartbeats 2000000 in
theorem readHead_none (g f m : Nat) (s : DS) (w : World) (aE aS aR : Addr) (hD : Dk w g f m s) (he : Errs w aE aS aR) (hdn : s.down = false) (hlook : lookD s 0 = none) :
    Calls Tryz.prog 36 #[.pointer (some ⟨g, 0, none⟩)] w (RetHd ⟨0, 0, 0⟩ w) := by
  have h0B : Below w.heap.size w (w.alloc (.cells #[.int .i64 0, .int .i64 0, .int .i64 0] 68)) := (Below.refl _ w).alloc (Nat.le_refl _) _
  have h0b : Blk (w.alloc (.cells #[.int .i64 0, .int .i64 0, .int .i64 0] 68)) w.heap.size 68 #[.int .i64 0, .int .i64 0, .int .i64 0] := heap_alloc_new w _
  have hrd := read_ok g f m s 0 (w.alloc (.cells #[.int .i64 0, .int .i64 0, .int .i64 0] 68)) (hD.below h0B) hdn (by have := hD.n1; omega)
  rw [hlook] at hrd
  have HRd := Lib.hid hrd
  have HB0 := Lib.hid h0B
  have Hb0 := Lib.hid h0b
  have HE := Lib.hid he
  have HD := Lib.hid hD
  have hn1 := hD.n1
  have hnm := hD.nm
  clear hrd h0B h0b he hlook hD
  go_enter Tryz.func36, Tryz.ntmps36
  go_wp2_with fail
  refine HRd.out.mono ?_
  rintro e w1 ⟨hB1, rfl⟩
  have HB1 := Lib.hid (HB0.out.trans (hB1.mono HB0.out.size))
  have Hb1 := Lib.hid (Hb0.out.below hB1 Hb0.out.lt)
  have HNR := Lib.hid (newReader_any none 0 0 [] w1 rfl (by omega) Str.nil)
  clear hB1 HRd HB0 Hb0
  go_wp2_with fail
  refine HNR.out.mono ?_
  rintro e w2 ⟨rg, rfl, hR2, _, hrg, hB2⟩
  have HB2 := Lib.hid (HB1.out.trans (hB2.mono HB1.out.size))
  have Hb2 := Lib.hid (Hb1.out.below hB2 Hb1.out.lt)
  have hwr : w.heap.size < rg := Nat.lt_of_lt_of_le Hb1.out.lt hrg
  have HN2 := Lib.hid (num_ok rg [] 0 (-9223372036854775808) 9223372036854775807 w2 aE aS aR hR2 (HE.out.below HB2.out (Nat.le_refl _)))
  clear hR2 hB2 HNR Hb1
  go_wp2_with fail
  refine HN2.out.mono ?_
  rintro e w3 ⟨he3, hG3, hR3⟩
  obtain rfl : e = .returned (.int .i64 0) := he3
  have hR3 : ∃ a, Rd w3 rg [] 0 (.iface 127 (.pointer (some ⟨a, 0, none⟩))) := by
    rcases hR3 with ⟨hc, _⟩ | ⟨_, a, _, _, hr⟩
    · exact absurd hc (by decide)
    · exact ⟨a, hr⟩
  obtain ⟨ea, hR3⟩ := hR3
  have hs3 := hG3.size
  have HB3 := Lib.hid (HB2.out.grown hG3 HB2.out.size (fun j hj => by cases hj; omega))
  have Hb3 := Lib.hid (Hb2.out.grown hG3 (by simp; omega))
  have HR3 := Lib.hid hR3
  have hrl := HR3.out.lt
  clear hR3 hG3 HN2
  have h4b : Blk (w3.alloc (.cells #[.int .i64 0, .int .i64 0, .int .i64 0] 68)) w3.heap.size 68 #[.int .i64 0, .int .i64 0, .int .i64 0] := heap_alloc_new w3 _
  have h4B : Below w3.heap.size w3 (w3.alloc (.cells #[.int .i64 0, .int .i64 0, .int .i64 0] 68)) := (Below.refl _ w3).alloc (Nat.le_refl _) _
  have HB4 := Lib.hid (HB3.out.trans (h4B.mono HB3.out.size))
  have Hb4 := Lib.hid (Hb3.out.below h4B Hb3.out.lt)
  have HR4 := Lib.hid (HR3.out.fr ((Fr.refl [] w3).belows h4B (Nat.le_refl _)) (by simp))
  have HN4 := Lib.hid (num_bad rg [] 0 0 1 _ 127 ⟨ea, 0, none⟩ HR4.out)
  have Hx4 := Lib.hid h4b
  clear h4b h4B
  go_wp2_with fail
  refine HN4.out.mono ?_
  rintro e w4 ⟨rfl, rfl⟩
  have c41 : (w3.alloc (.cells #[.int .i64 0, .int .i64 0, .int .i64 0] 68)).cell? ⟨w3.heap.size, 1, none⟩ = some (.int .i64 0) := Hx4.out.cell 1
  have z41 := Hx4.out.free 1
  have hF6 : Fr [w3.heap.size] (w3.alloc (.cells #[.int .i64 0, .int .i64 0, .int .i64 0] 68)) ((w3.alloc (.cells #[.int .i64 0, .int .i64 0, .int .i64 0] 68)).setCell ⟨w3.heap.size, 1, none⟩ (.int .i64 0)) := (Fr.refl _ _).set (.inl (by simp)) _
  have HB6 := Lib.hid (HB4.out.setCell (p := ⟨w3.heap.size, 1, none⟩) (show w.heap.size ≤ w3.heap.size by omega) (.int .i64 0))
  have Hb6 := Lib.hid (Hb4.out.fr hF6 (by simp; omega))
  have Hx6 := Lib.hid (Hx4.out.set 1 (.int .i64 0))
  have HR6 := Lib.hid (HR4.out.fr hF6 (by simp; omega))
  generalize (w3.alloc (.cells #[.int .i64 0, .int .i64 0, .int .i64 0] 68)) = W4 at *
  have hD6 := HD.out.below HB6.out
  obtain ⟨kc, hH6, _⟩ := hD6.head
  have HRm := Lib.hid (room_any g f m s.kept.length kc s.calls s.armed s.down _ hH6 hn1 hnm)
  have HN6 := Lib.hid (num_bad rg [] 0 0 (roomN s.kept.length : Int) _ 127 ⟨ea, 0, none⟩ HR6.out)
  clear hF6 hD6 hH6 HN4 HR4 Hx4
  go_wp2_with fail
  refine HRm.out.mono ?_
  rintro e w6 ⟨rfl, rfl⟩
  go_wp2_with fail
  refine HN6.out.mono ?_
  rintro e w7 ⟨rfl, rfl⟩
  have c72 : (W4.setCell ⟨w3.heap.size, 1, none⟩ (.int .i64 0)).cell? ⟨w3.heap.size, 2, none⟩ = some (.int .i64 0) := Hx6.out.cell 2
  have z72 := Hx6.out.free 2
  have hF8 : Fr [w3.heap.size] (W4.setCell ⟨w3.heap.size, 1, none⟩ (.int .i64 0)) ((W4.setCell ⟨w3.heap.size, 1, none⟩ (.int .i64 0)).setCell ⟨w3.heap.size, 2, none⟩ (.int .i64 0)) := (Fr.refl _ _).set (.inl (by simp)) _
  have HB8 := Lib.hid (HB6.out.setCell (p := ⟨w3.heap.size, 2, none⟩) (show w.heap.size ≤ w3.heap.size by omega) (.int .i64 0))
  have hb8 := Hb6.out.fr hF8 (by simp; omega)
  have hR8 := HR6.out.fr hF8 (by simp; omega)
  have HEr := Lib.hid (err_bad rg [] 0 _ 127 ⟨ea, 0, none⟩ hR8)
  generalize (W4.setCell ⟨w3.heap.size, 1, none⟩ (.int .i64 0)) = W6 at *
  clear hF8 hR8 HN6 HR6 HRm Hx6 Hb6 c41 z41
  go_wp2_with fail
  refine HEr.out.mono ?_
  rintro e w8 ⟨rfl, rfl⟩
  generalize (W6.setCell ⟨w3.heap.size, 2, none⟩ (.int .i64 0)) = W9 at *
  have e0 : W9.cell? ⟨w.heap.size, 0, none⟩ = some (.int .i64 0) := hb8.cell 0
  have e1 : W9.cell? ⟨w.heap.size, 1, none⟩ = some (.int .i64 0) := hb8.cell 1
  have e2 : W9.cell? ⟨w.heap.size, 2, none⟩ = some (.int .i64 0) := hb8.cell 2
  have y0 := hb8.free 0
  have y1 := hb8.free 1
  have y2 := hb8.free 2
  have hbz := hb8.lt
  have hFin := ((hb8.set 0 (.int .i64 0)).set 1 (.int .i64 0)).set 2 (.int .i64 0)
  have hBF := ((HB8.out.setCell (p := ⟨w.heap.size, 0, none⟩) (Nat.le_refl _) (.int .i64 0)).setCell (p := ⟨w.heap.size, 1, none⟩) (Nat.le_refl _) (.int .i64 0)).setCell (p := ⟨w.heap.size, 2, none⟩) (Nat.le_refl _) (.int .i64 0)
  have HFin := Lib.hid hFin
  have HBF := Lib.hid hBF
  clear hb8 hFin hBF c72 z72 HEr
  go_wp2
  have g0 : _ = some (Value.int .i64 0) := HFin.out.cell 0
  have g1 : _ = some (Value.int .i64 0) := HFin.out.cell 1
  have g2 : _ = some (Value.int .i64 0) := HFin.out.cell 2
  have hbF := HBF.out
  clear e0 e1 e2 y0 y1 y2 HFin HBF
  generalize ((W9.setCell ⟨w.heap.size, 0, none⟩ (.int .i64 0)).setCell ⟨w.heap.size, 1, none⟩ (.int .i64 0)).setCell ⟨w.heap.size, 2, none⟩ (.int .i64 0) = wF at *
  exact bodyPost_ret (v := .tuple #[hdV ⟨0, 0, 0⟩, .nilIface]) (by simp [results, Tryz.results36, go_sem, g0, g1, g2, hdV]) rfl ⟨rfl, hbF⟩

/-- The head of a disk, written or not. -/
theorem readHead_any (h : Hd) (g f m : Nat) (s : DS) (w : World) (aE aS aR : Addr) (hD : Dk w g f m s) (he : Errs w aE aS aR) (hdn : s.down = false) (hlook : (h = ⟨0, 0, 0⟩ ∧ lookD s 0 = none) ∨ lookD s 0 = some (encH h)) (ha : 0 ≤ h.age ∧ h.age ≤ 9223372036854775807) (hh : h.half ≤ 1) (hu : h.used ≤ roomN s.kept.length) :
    Calls Tryz.prog 36 #[.pointer (some ⟨g, 0, none⟩)] w (RetHd h w) := by
  rcases hlook with ⟨rfl, hl⟩ | hl
  · exact readHead_none g f m s w aE aS aR hD he hdn hl
  · exact readHead_some h g f m s w aE aS aR hD he hdn hl ha hh hu
end Go.Proofs.YtmpklljiddggpaaGreatDoor

/-
  The walk of jour's readSectors. Conditions: each theorem's own premises.
-/
namespace Go.Proofs.YtmpklljiddggpaaGreatDoor
open Go.Shelf Go.RowKit Go.Lib Go.Sort

/-- What a read leaves, written or not. -/
theorem retR_any {x : Sec} {w w' : World} {e : Ending} (h : RetR x w e w') : ∃ A c b, e = .returned (.tuple #[.slice A (secS x).length c, .bool b, .nilIface]) ∧ Str w' w'.heap.size A (secS x) ∧ (A = none → c = 0) ∧ (secS x).length ≤ 128 ∧ Below w.heap.size w w' := by
  obtain ⟨hB, h⟩ := h
  cases x with
  | none =>
    obtain rfl := h
    exact ⟨none, 0, false, rfl, Str.nil, fun _ => rfl, by simp [secS], hB⟩
  | some b =>
    obtain ⟨g, c, rfl, _, hs, hl, _⟩ := h
    exact ⟨some ⟨g, 0, none⟩, c, true, rfl, hs, (fun e => by cases e), hl, hB⟩

/-- What readSectors leaves. -/
def RetSecs (b : List UInt8) (most : Nat) (w : World) (e : Ending) (w' : World) : Prop := ∃ v, e = .returned (.tuple #[v, .nilIface]) ∧ OwnB w' w.heap.size v b ∧ b.length ≤ most ∧ Below w.heap.size w w'
theorem OwnB.mono {w : World} {base b' : Nat} {v : Value} {l : List UInt8} (h : OwnB w base v l) (hb : b' ≤ base) : OwnB w b' v l := by
  obtain ⟨h1, h2⟩ := h
  refine ⟨h1, ?_⟩
  rcases h2 with h2 | ⟨gg, cap, cur, e, k1, k2⟩
  · exact .inl h2
  · exact .inr ⟨gg, cap, cur, e, by omega, k2⟩
set_option maxRecDepth 100000 in
set_option maxHeartbeats 2000000 in
theorem readSectors_any (h : Hd) (g f m : Nat) (s : DS) (w : World) (hD : Dk w g f m s) (hdn : s.down = false) (hh : h.half ≤ 1) (hu : h.used ≤ roomN s.kept.length) :
    Calls Tryz.prog 37 #[.pointer (some ⟨g, 0, none⟩), hdV h] w (RetSecs (catF (lookD s) (h.first s.kept.length) h.used) (h.used * 128) w) := by
  have h3B : Below w.heap.size w (w.alloc (.cells #[.int .i64 h.age, .int .i64 (h.half : Int), .int .i64 (h.used : Int)] 68)) := (Below.refl _ w).alloc (Nat.le_refl _) _
  have h3b : Blk (w.alloc (.cells #[.int .i64 h.age, .int .i64 (h.half : Int), .int .i64 (h.used : Int)] 68)) w.heap.size 68 #[.int .i64 h.age, .int .i64 (h.half : Int), .int .i64 (h.used : Int)] := heap_alloc_new w _
  have hn1 := hD.n1
  have hnm := hD.nm
  have hfn : h.first s.kept.length + h.used ≤ s.kept.length := by
    unfold Hd.first
    have : h.half * roomN s.kept.length ≤ 1 * roomN s.kept.length := Nat.mul_le_mul_right _ hh
    have : 2 * roomN s.kept.length + 1 ≤ s.kept.length := by unfold roomN; omega
    omega
  have HD := Lib.hid hD
  have HB3 := Lib.hid h3B
  have Hb3 := Lib.hid h3b
  clear hD h3B h3b
  unfold hdV
  go_enter Tryz.func37, Tryz.ntmps37
  go_wp2
  go_loopg [6, 7, 8, 9, 10, 13] h.used (fun kx s6 s7 s8 s9 s10 s13 wr => ∃ k : Nat, s13 = .int .i64 k ∧ k ≤ h.used ∧ h.used - k ≤ kx ∧ Hid (OwnB wr (w.heap.size + 1) s6 (catF (lookD s) (h.first s.kept.length) k)) ∧ (catF (lookD s) (h.first s.kept.length) k).length ≤ k * 128 ∧ Hid (Below (w.heap.size + 1) (w.alloc (.cells #[.int .i64 h.age, .int .i64 (h.half : Int), .int .i64 (h.used : Int)] 68)) wr))
  case atStart => exact ⟨0, rfl, by omega, by omega, Lib.hid (OwnB.nil _ _), by simp [catF], Lib.hid (Below.refl _ _)⟩
  case round =>
    obtain ⟨k, rfl, hkn, hkx, HO, hle, HB⟩ := hrel
    have hbx := Hb3.out.below HB.out (by omega)
    have hws : w.heap.size + 1 ≤ wr.heap.size := by have := HB.out.size; simpa using this
    have HBw := Lib.hid (HB3.out.trans (HB.out.mono (by omega)))
    by_cases hlt : k < h.used
    · have hltI : (k : Int) < (h.used : Int) := by omega
      have b0 : wr.cell? ⟨w.heap.size, 0, none⟩ = some (.int .i64 h.age) := hbx.cell 0
      have b1 : wr.cell? ⟨w.heap.size, 1, none⟩ = some (.int .i64 (h.half : Int)) := hbx.cell 1
      have b2 : wr.cell? ⟨w.heap.size, 2, none⟩ = some (.int .i64 (h.used : Int)) := hbx.cell 2
      have HF := Lib.hid (first_any h g f m s wr (HD.out.below HBw.out) hh)
      clear hbx
      go_wp2_with fail
      refine HF.out.mono ?_
      rintro e w2 ⟨rfl, hB2⟩
      have HB2 := Lib.hid (HB.out.trans (hB2.mono hws))
      have HBw2 := Lib.hid (HBw.out.trans (hB2.mono HBw.out.size))
      have HO2 := Lib.hid (HO.out.below hB2 (Nat.le_refl _))
      have HRd := Lib.hid (read_ok g f m s (h.first s.kept.length + k) w2 (HD.out.below HBw2.out) hdn (by omega))
      rw [show ((h.first s.kept.length + k : Nat) : Int) = (h.first s.kept.length : Int) + (k : Int) by omega] at HRd
      have hw2 : w.heap.size + 1 ≤ w2.heap.size := Nat.le_trans hws hB2.size
      clear hB2 HF HO HB b0 b1 b2
      go_wp2_with fail
      refine HRd.out.mono ?_
      rintro e w3 hr
      obtain ⟨A3, c3, b3, rfl, hS3, hz3, hl3, hB3⟩ := retR_any hr
      have hO3 := HO2.out.below hB3 (Nat.le_refl _)
      have HB3' := Lib.hid (HB2.out.trans (hB3.mono hw2))
      obtain ⟨v4, w4, hrun, hO4, hg4⟩ := append_bytes hO3 hS3 rfl hz3 (by omega) (Nat.le_trans hw2 hB3.size)
      have HO4 := Lib.hid hO4
      have HB4 := Lib.hid (HB3'.out.grown hg4 (by have := HB3'.out.size; simpa using this) (fun j hj => (hO3.block j hj).1))
      have hle2 : (catF (lookD s) (h.first s.kept.length) (k + 1)).length ≤ (k + 1) * 128 := by rw [catF, List.length_append]; omega
      generalize (secS (lookD s (h.first s.kept.length + k))).length = q at *
      clear hr hS3 hz3 hB3 hO3 hO4 hg4 HRd HO2
      go_wp2_with (first | (at_builtin; refine Lib.wpList_append_run _ rfl _ _ _ _ rfl _ _ rfl rfl _ _ (hrun _) ?_) | go_in)
      go_roundg (h.used - (k + 1))
      case measure => omega
      case rel => exact ⟨k + 1, by go_num, by omega, Nat.le_refl _, HO4, hle2, HB4⟩
    · obtain rfl : k = h.used := by omega
      have hltI : ¬ (h.used : Int) < (h.used : Int) := by omega
      clear hbx
      go_wp2
      go_ret2
      exact ⟨_, rfl, HO.out.mono (by omega), hle, HBw.out⟩
end Go.Proofs.YtmpklljiddggpaaGreatDoor

/-
  The walks of jour's readRecords. Conditions: each theorem's own premises.
-/
namespace Go.Proofs.YtmpklljiddggpaaGreatDoor
open Go.Shelf Go.RowKit Go.Lib Go.Sort

set_option maxRecDepth 100000 in
theorem bool_rd (g : Nat) (l rest : List UInt8) (k k' : Nat) (b : Bool) (w : World) (aE aS aR : Addr) (hr : Rd w g l k .nilIface) (he : Errs w aE aS aR) (hl : l.drop k = enc (if b then 1 else 0) ++ rest) (hk : k' = k + (enc (if b then 1 else 0)).length) :
    Calls Tryz.prog 66 #[.pointer (some ⟨g, 0, none⟩)] w (RetRd w g l k' (.bool b)) := by
  have h := num_rd g l rest k k' (if b then 1 else 0) 0 1 w aE aS aR hr he hl hk (by split <;> omega) (by split <;> omega) (by split <;> omega) (by split <;> omega)
  clear hr he hl hk
  unfold RetRd at h ⊢
  cases b
  · go_enter Tryz.func66, Tryz.ntmps66
    go_wp2_with fail
    refine h.mono ?_
    rintro e w2 ⟨rfl, h2, h3⟩
    go_wp2
    go_ret
    exact ⟨rfl, h2, h3⟩
  · go_enter Tryz.func66, Tryz.ntmps66
    go_wp2_with fail
    refine h.mono ?_
    rintro e w2 ⟨rfl, h2, h3⟩
    go_wp2
    go_ret
    exact ⟨rfl, h2, h3⟩

theorem encL_length_ge : ∀ {l : List Chg}, (∀ c ∈ l, OkC c) → l.length * 2 ≤ (encL l).length
  | [], _ => by simp
  | c :: r, h => by
    have h2 := front_length (h c (by simp))
    have h3 := encL_length_ge (l := r) fun x hx => h x (by simp [hx])
    simp only [encL, encC1, List.length_append, List.length_cons]
    omega
theorem encL_drop {L : List Chg} {k : Nat} (h : k < L.length) : encL (L.drop k) = frontC L[k] ++ (L[k].val ++ encL (L.drop (k + 1))) := by
  rw [List.drop_eq_getElem_cons h]
  simp [encL, encC1]
theorem chk_fine {L : List Chg} (h : ∀ c ∈ L, OkC c) : chk L = .fine := by
  unfold chk
  have h1 : L.any badKey = false := by
    rw [List.any_eq_false]
    intro c hc
    have := h c hc
    have h1 := this.k1
    have h2 := this.k2
    simp only [badKey, Bool.or_eq_true, decide_eq_true_eq]
    omega
  have h2 : L.any badVal = false := by
    rw [List.any_eq_false]
    intro c hc
    have := (h c hc).v
    simp [badVal]
    omega
  rw [h1, h2]
  rfl
theorem Rd.below {B : Nat} {w w' : World} {g : Nat} {l : List UInt8} {k : Nat} {er : Value} (h : Rd w g l k er) (hb : Below B w w') (hg : g < B) : Rd w' g l k er := by
  obtain ⟨A, n, c, h1, hn, hs, h2⟩ := h
  exact ⟨A, n, c, (hb.block g hg).trans h1, hn, hs.below (hb.mono (Nat.le_of_lt hg)), h2⟩
/-- What stands behind a change's key. -/
def tailC (x : Chg) (R : List UInt8) : List UInt8 := if x.gone then R else encT x.val ++ R
theorem front_tail {x : Chg} (h : OkC x) (R : List UInt8) : frontC x ++ (x.val ++ R) = encT x.key ++ (enc (if x.gone then 1 else 0) ++ tailC x R) := by
  unfold frontC tailC encT
  cases hg : x.gone
  · simp
  · simp [h.g hg]
/-- Where the loop of readRecords stands. -/
structure RrI (w2 : World) (rg : Nat) (L : List Chg) (k : Nat) (v : Value) (wr : World) : Prop where
  own : OwnC wr w2.heap.size v (L.take k)
  rd : ∃ p, Rd wr rg (encL L) p .nilIface ∧ (encL L).drop p = encL (L.drop k) ∧ p ≤ (encL L).length
  fr : Fr [rg] w2 wr

set_option maxRecDepth 100000 in
set_option maxHeartbeats 4000000 in
theorem readRecords_any (v : Value) (B : Nat) (L : List Chg) (w : World) (aE aS aR aC aF aM : Addr) (hO : OwnB w B v (encL L)) (he : Errs w aE aS aR) (hE : Es w aR aC aF aM) (hok : ∀ c ∈ L, OkC c) (hlen : (encL L).length ≤ 2097152) (hfew : (aft L).length ≤ 256) :
    Calls Tryz.prog 38 #[v] w fun e w' => ∃ v', e = .returned (.tuple #[v', .bool true]) ∧ OwnC w' w.heap.size v' (aft L) ∧ Below w.heap.size w w' := by
  have hge := encL_length_ge hok
  obtain ⟨A1, c1, rfl, hO1⟩ := hO.own
  have HNR := Lib.hid (newReader_any A1 (encL L).length c1 (encL L) w rfl (by omega) hO1.str)
  have HOk := Lib.hid hok
  have HE := Lib.hid he
  have HE2 := Lib.hid hE
  have HFew := Lib.hid hfew
  have hlow := he.low
  clear hO hO1 he hE hok hfew
  go_enter Tryz.func38, Tryz.ntmps38
  go_wp2_with fail
  refine HNR.out.mono ?_
  rintro e w2 ⟨rg, rfl, hR2, _, hrg, hB2⟩
  have hrl := hR2.lt
  have HB2 := Lib.hid hB2
  have HR2 := Lib.hid hR2
  clear hB2 hR2 HNR
  go_wp2
  go_loopg [4, 6] L.length (fun kx s4 s6 wr => ∃ k : Nat, k ≤ L.length ∧ L.length - k ≤ kx ∧ Hid (RrI w2 rg L k s4 wr))
  case atStart => exact ⟨0, by omega, by omega, Lib.hid ⟨OwnC.nil _ _, ⟨0, HR2.out, rfl, Nat.zero_le _⟩, Fr.refl _ _⟩⟩
  case round =>
    clear HR2
    obtain ⟨k, hkn, hkx, HI⟩ := hrel
    obtain ⟨p, hRp, hdr, hpl⟩ := HI.out.rd
    have HLf := Lib.hid (left_any rg (encL L) p .nilIface wr hRp)
    have hws := HI.out.fr.size
    by_cases hlt : k < L.length
    · have hx1 := HOk.out _ (List.getElem_mem hlt)
      have hxf := front_length hx1
      have hdk := encL_drop hlt
      rw [hdk] at hdr
      have hpos : p < (encL L).length := by
        have := congrArg List.length hdr
        rw [List.length_drop, List.length_append] at this
        omega
      have htk : L.take (k + 1) = L.take k ++ [L[k]] := List.take_succ_eq_append_getElem hlt
      generalize L[k] = x at *
      have HTk := Lib.hid htk
      have HDr := Lib.hid hdr
      have hpI : (0 : Int) < ((encL L).length - p : Nat) := by omega
      rw [front_tail hx1] at hdr
      clear HDr
      have hxk := hx1.k2
      have hxv := hx1.v
      have hxg := hx1.g
      have HXg := Lib.hid hxg
      have hF0 : Fr [rg] wr wr := Fr.refl _ _
      have hErr : ∀ W, Fr [rg] wr W → Errs W aE aS aR := fun W hW => ((HE.out.below HB2.out (Nat.le_refl _)).fr HI.out.fr (by simp; omega)).fr hW (by simp; omega)
      have hOwn : ∀ W, Fr [rg] wr W → OwnC W w2.heap.size u4 (L.take k) := fun W hW => HI.out.own.fr hW (fun j hj => by have := (HI.out.own.block j hj).1; simp; omega)
      have hOb : ∀ j, u4.ownBlock = some j → w2.heap.size ≤ j := fun j hj => (HI.out.own.block j hj).1
      have HErr := Lib.hid hErr
      have HOwn := Lib.hid hOwn
      have HOb := Lib.hid hOb
      have HFr := Lib.hid HI.out.fr
      have hp1 : (encL L).drop (p + (encT x.key).length) = enc (if x.gone then 1 else 0) ++ tailC x (encL (L.drop (k + 1))) := by rw [← List.drop_drop, hdr, List.drop_left]
      have hp2 : (encL L).drop (p + (encT x.key).length + (enc (if x.gone then 1 else 0)).length) = tailC x (encL (L.drop (k + 1))) := by rw [← List.drop_drop, hp1, List.drop_left]
      have hple2 : p + (encT x.key).length + (enc (if x.gone then 1 else 0)).length ≤ (encL L).length := by
        have h1 := congrArg List.length hdr
        simp only [List.length_drop, List.length_append] at h1
        have := enc_pos (x.key.length : Int)
        unfold encT at h1 ⊢
        simp only [List.length_append] at h1 ⊢
        omega
      have hple3 : x.gone = false → p + (encT x.key).length + (enc (if x.gone then 1 else 0)).length + (encT x.val).length ≤ (encL L).length := fun hg => by
        have h1 := congrArg List.length hp2
        simp only [tailC, hg, List.length_drop, List.length_append, Bool.false_eq_true, if_false] at h1 hple2 ⊢
        have := enc_pos (x.val.length : Int)
        unfold encT at h1 hple2 ⊢
        simp only [List.length_append] at h1 hple2 ⊢
        omega
      have HDr := Lib.hid hdr
      have HP1 := Lib.hid hp1
      have HP2 := Lib.hid hp2
      have HL2 := Lib.hid hple2
      have HL3 := Lib.hid hple3
      have HRp := Lib.hid hRp
      have HLg := Lib.hid hge
      clear hdk hdr hRp htk hp1 hp2 hple2 hple3 hErr hOwn hOb hF0 hx1 HI hxg hge
      go_wp2_with fail
      refine HLf.out.mono ?_
      rintro e w3 ⟨rfl, q, rfl⟩
      have hF3 : Fr [rg] wr (wr.drewN q) := (Fr.refl [rg] wr).drew q
      have hR3 : Rd (wr.drewN q) rg (encL L) p .nilIface := HRp.out.fr ((Fr.refl [] wr).drew q) (by simp)
      have hs3 : (wr.drewN q).heap.size = wr.heap.size := rfl
      have HEr := Lib.hid (err_nil rg (encL L) p (wr.drewN q) hR3)
      have HTx := Lib.hid (text_rd rg (encL L) x.key _ p _ 40 (wr.drewN q) aE aS aR hR3 (HErr.out _ hF3) HDr.out rfl (by omega) (by omega))
      generalize ((encL L).length - p : Nat) = lf at *
      have HF3 := Lib.hid hF3
      generalize wr.drewN q = W3 at *
      clear hF3 hR3 HLf
      go_wp2_with fail
      refine HEr.out.mono ?_
      rintro e w4 ⟨rfl, rfl⟩
      go_wp2_with fail
      refine HTx.out.mono ?_
      rintro e w5 ⟨rfl, hG5, hR5⟩
      have hs5 := hG5.size
      have hF5 := HF3.out.grown hG5 (by simp)
      have h6b : Blk (w5.alloc (.cells #[.string ⟨x.key.toArray⟩, .string ⟨#[]⟩, .bool false] 55)) w5.heap.size 55 #[.string ⟨x.key.toArray⟩, .string ⟨#[]⟩, .bool false] := heap_alloc_new w5 _
      have hF6 := hF5.alloc (.cells #[.string ⟨x.key.toArray⟩, .string ⟨#[]⟩, .bool false] 55)
      have hR6 := hR5.fr ((Fr.refl [] w5).alloc (.cells #[.string ⟨x.key.toArray⟩, .string ⟨#[]⟩, .bool false] 55)) (by simp)
      have HBo := Lib.hid (bool_rd rg (encL L) _ _ _ x.gone _ aE aS aR hR6 (HErr.out _ hF6) HP1.out rfl)
      have Hx6 := Lib.hid h6b
      have HF6 := Lib.hid hF6
      have hbig : rg < w5.heap.size ∧ wr.heap.size ≤ w5.heap.size := by omega
      clear hG5 hR5 hF5 h6b hF6 hR6 HTx HEr HRp
      go_wp2_with fail
      refine HBo.out.mono ?_
      rintro e w7 ⟨rfl, hG7, hR7⟩
      have hs7 : w5.heap.size + 1 ≤ w7.heap.size := by have := hG7.size; simpa using this
      have hx7 := Hx6.out.grown hG7 (by simp; omega)
      have hF7 := HF6.out.grown hG7 (by simp)
      have c71 : w7.cell? ⟨w5.heap.size, 1, none⟩ = some (.string ⟨#[]⟩) := hx7.cell 1
      have c72 : w7.cell? ⟨w5.heap.size, 2, none⟩ = some (.bool false) := hx7.cell 2
      have z72 := hx7.free 2
      have hx8 := hx7.set 2 (.bool x.gone)
      have hF8 := hF7.set (p := ⟨w5.heap.size, 2, none⟩) (.inr hbig.2) (.bool x.gone)
      have hR8 := hR7.fr ((Fr.refl [w5.heap.size] w7).set (p := ⟨w5.heap.size, 2, none⟩) (.inl (by simp)) (.bool x.gone)) (by simp; omega)
      have hs8 : (w7.setCell ⟨w5.heap.size, 2, none⟩ (.bool x.gone)).heap.size = w7.heap.size := by simp
      have Hx8 : Hid (Blk (w7.setCell ⟨w5.heap.size, 2, none⟩ (.bool x.gone)) w5.heap.size 55 #[.string ⟨x.key.toArray⟩, .string ⟨#[]⟩, .bool x.gone]) := Lib.hid hx8
      have HF8 := Lib.hid hF8
      have HR8 := Lib.hid hR8
      have HS8 := Lib.hid hs8
      clear hG7 hR7 hx7 hF7 hx8 hF8 hR8 hs8 HBo Hx6 HF6
      cases hg : x.gone
      · have htl := HP2.out
        rw [show tailC x (encL (L.drop (k + 1))) = encT x.val ++ encL (L.drop (k + 1)) by simp [tailC, hg]] at htl
        have hl3 := HL3.out hg
        rw [hg] at HR8 HF8 Hx8 HS8 htl hl3
        have d2 : (w7.setCell ⟨w5.heap.size, 2, none⟩ (.bool false)).cell? ⟨w5.heap.size, 2, none⟩ = some (.bool false) := Hx8.out.cell 2
        have HTy := Lib.hid (text_rd rg (encL L) x.val _ _ _ 32768 _ aE aS aR HR8.out (HErr.out _ HF8.out) htl rfl (by omega) (by omega))
        have HTl := Lib.hid htl
        have HL4 := Lib.hid hl3
        have HGn := Lib.hid hg
        clear hg htl hl3 d2
        go_wp2_with fail
        refine HTy.out.mono ?_
        rintro e w9 ⟨rfl, hG9, hR9⟩
        have hs9 : w7.heap.size ≤ w9.heap.size := by have := hG9.size; rw [HS8.out] at this; exact this
        have hx9 := Hx8.out.grown hG9 (by simp; omega)
        have hF9 := HF8.out.grown hG9 (by simp)
        have c91 : w9.cell? ⟨w5.heap.size, 1, none⟩ = some (.string ⟨#[]⟩) := hx9.cell 1
        have z91 := hx9.free 1
        have hxA : Blk (w9.setCell ⟨w5.heap.size, 1, none⟩ (.string ⟨x.val.toArray⟩)) w5.heap.size 55 #[.string ⟨x.key.toArray⟩, .string ⟨x.val.toArray⟩, .bool false] := hx9.set 1 (.string ⟨x.val.toArray⟩)
        have hFA := hF9.set (p := ⟨w5.heap.size, 1, none⟩) (.inr hbig.2) (.string ⟨x.val.toArray⟩)
        have hRA := hR9.fr ((Fr.refl [w5.heap.size] w9).set (p := ⟨w5.heap.size, 1, none⟩) (.inl (by simp)) (.string ⟨x.val.toArray⟩)) (by simp; omega)
        have hsA : (w9.setCell ⟨w5.heap.size, 1, none⟩ (.string ⟨x.val.toArray⟩)).heap.size = w9.heap.size := by simp
        have hOA := HOwn.out _ hFA
        obtain ⟨vB, wB, hrun, hOB, _, hBB⟩ := append_one x hOA (by have := HLg.out; simp; omega) (by omega)
        have hBB := hBB w2.heap.size (by omega) HOb.out
        have HRB := Lib.hid (hRA.below hBB (by omega))
        have HFB := Lib.hid ((HFr.out.trans hFA (by simp)).belows hBB (Nat.le_refl _))
        have HOB := Lib.hid hOB
        rw [HGn.out, hsA] at hrun
        have a0 : w9.cell? ⟨w5.heap.size, 0, none⟩ = some (.string ⟨x.key.toArray⟩) := hx9.cell 0
        have a2 : w9.cell? ⟨w5.heap.size, 2, none⟩ = some (.bool false) := hx9.cell 2
        clear hG9 hR9 hx9 hF9 hxA hFA hRA hOA hOB hBB HTy Hx8 HF8 HR8 c71 c72 z72
        go_wp2_with (first | (at_builtin; refine Lib.wpList_append_run _ rfl _ _ _ _ rfl _ _ rfl rfl _ _ (hrun _) ?_) | go_in)
        go_roundg (L.length - (k + 1))
        case measure => omega
        case rel => exact ⟨k + 1, by omega, Nat.le_refl _, Lib.hid ⟨by rw [HTk.out]; exact HOB.out, ⟨_, HRB.out, by rw [← List.drop_drop, HTl.out, List.drop_left], HL4.out⟩, HFB.out⟩⟩
      · have htl := HP2.out
        rw [show tailC x (encL (L.drop (k + 1))) = encL (L.drop (k + 1)) by simp [tailC, hg]] at htl
        have hl2 := HL2.out
        have hv0 := HXg.out hg
        have hxe : x = ⟨x.key, [], true⟩ := chg_ext rfl hv0 hg
        rw [hg] at HR8 HF8 Hx8 HS8 htl hl2
        have hOA := HOwn.out _ HF8.out
        obtain ⟨vB, wB, hrun, hOB, _, hBB⟩ := append_one ⟨x.key, [], true⟩ hOA (by have := HLg.out; simp; omega) (by have := HS8.out; omega)
        have hBB := hBB w2.heap.size (by have := HS8.out; omega) HOb.out
        have HRB := Lib.hid (HR8.out.below hBB (by omega))
        have HFB := Lib.hid ((HFr.out.trans HF8.out (by simp)).belows hBB (Nat.le_refl _))
        rw [← hxe] at hOB
        have HOB := Lib.hid hOB
        rw [HS8.out] at hrun
        have HTl := Lib.hid htl
        have HL4 := Lib.hid hl2
        have a0 : (w7.setCell ⟨w5.heap.size, 2, none⟩ (.bool true)).cell? ⟨w5.heap.size, 0, none⟩ = some (.string ⟨x.key.toArray⟩) := Hx8.out.cell 0
        have a1 : (w7.setCell ⟨w5.heap.size, 2, none⟩ (.bool true)).cell? ⟨w5.heap.size, 1, none⟩ = some (.string ⟨#[]⟩) := Hx8.out.cell 1
        have a2 : (w7.setCell ⟨w5.heap.size, 2, none⟩ (.bool true)).cell? ⟨w5.heap.size, 2, none⟩ = some (.bool true) := Hx8.out.cell 2
        clear hOA hOB hBB Hx8 HF8 HR8 hg hv0 hxe htl hl2
        go_wp2_with (first | (at_builtin; refine Lib.wpList_append_run _ rfl _ _ _ _ rfl _ _ rfl rfl _ _ (hrun _) ?_) | go_in)
        go_roundg (L.length - (k + 1))
        case measure => omega
        case rel => exact ⟨k + 1, by omega, Nat.le_refl _, Lib.hid ⟨by rw [HTk.out]; exact HOB.out, ⟨_, HRB.out, HTl.out, HL4.out⟩, HFB.out⟩⟩
    · have hkL : L.drop k = [] := List.drop_eq_nil_of_le (by omega)
      rw [hkL] at hdr
      have hp0 : (encL L).length - p = 0 := by
        have := congrArg List.length hdr
        simpa [encL] using this
      rw [hp0] at HLf
      have hown := HI.out.own
      rw [List.take_of_length_le (by omega)] at hown
      obtain ⟨A4, c4, rfl, hC4, hz4, hc41, hc42, hab4⟩ := hown.chs
      have HRp := Lib.hid hRp
      have HFr := Lib.hid HI.out.fr
      have HC4 := Lib.hid hC4
      have HZ4 := Lib.hid hz4
      clear hdr hRp HI hown hC4 hz4 hkL hp0 hab4
      go_wp2_with fail
      refine HLf.out.mono ?_
      rintro e w3 ⟨rfl, q, rfl⟩
      have hR3 : Rd (wr.drewN q) rg (encL L) p .nilIface := HRp.out.fr ((Fr.refl [] wr).drew q) (by simp)
      have hF3 : Fr [rg] w2 (wr.drewN q) := HFr.out.drew q
      have hC3 : Chs (wr.drewN q) wr.heap.size A4 L := HC4.out.keep fun _ _ => rfl
      have hs3 : wr.heap.size ≤ (wr.drewN q).heap.size ∧ (wr.drewN q).heap.size ≤ wr.heap.size := ⟨Nat.le_refl _, Nat.le_refl _⟩
      generalize wr.drewN q = W3 at *
      have h5B : Below W3.heap.size W3 (W3.alloc (.cells #[.slice A4 L.length c4] 35)) := (Below.refl _ W3).alloc (Nat.le_refl _) _
      have hL5 : Lists (W3.alloc (.cells #[.slice A4 L.length c4] 35)) (W3.alloc (.cells #[.slice A4 L.length c4] 35)).heap.size (some ⟨W3.heap.size, 0, none⟩) [⟨A4, c4, L⟩] := by
        refine ⟨fun i t ht => ⟨_, rfl, by simp, ?_⟩, fun t ht => ?_⟩
        · match i, ht with
          | 0, ht =>
            simp at ht
            subst ht
            simp [SlV.v, Addr.add]
        · obtain rfl : t = ⟨A4, c4, L⟩ := by simpa using ht
          exact ⟨(hC3.below (h5B.mono (by omega))).more (by simp; omega), HZ4.out⟩
      have hfl : flat [⟨A4, c4, L⟩] = L := by simp [flat]
      have hc := after_any (some ⟨W3.heap.size, 0, none⟩) 1 1 [⟨A4, c4, L⟩] _ rfl hL5 (by rw [hfl]; omega) (by omega)
      rw [hfl] at hc
      have HC := Lib.hid hc
      have HR5 := Lib.hid (hR3.below h5B (by have := hF3.size; omega))
      have HF5 := Lib.hid (hF3.alloc (.cells #[.slice A4 L.length c4] 35))
      have HC5 := Lib.hid ((hC3.below (h5B.mono (by omega))).more (B' := (W3.alloc (.cells #[.slice A4 L.length c4] 35)).heap.size) (by simp; omega))
      have hz5 : W3.heap.size + 1 = (W3.alloc (.cells #[.slice A4 L.length c4] 35)).heap.size := by simp
      have HZ5 := Lib.hid hz5
      clear hR3 hF3 hC3 h5B hL5 hfl hc HLf HC4 HRp hz5
      go_wp2_with fail
      refine HC.out.mono ?_
      rintro e w6 ⟨v6, rfl, hO6, hB6⟩
      have hs6 := hB6.size
      rw [← HZ5.out] at hs6
      have hF6 := HF5.out.belows hB6 (by have := HF5.out.size; exact this)
      have HR6 := Lib.hid (HR5.out.below hB6 (by rw [← HZ5.out]; omega))
      have HEr := Lib.hid (err_nil rg (encL L) p w6 HR6.out)
      have hE6 := (HE2.out.fr ((Fr.refl [] w).belows HB2.out (Nat.le_refl _)) (by simp)).fr hF6 (by simp; omega)
      have HCk := Lib.hid (check_any A4 c4 L w6 aR aC aF aM hE6 ((HC5.out.below hB6).more hB6.size) (by omega))
      rw [chk_fine HOk.out] at HCk
      have HO6 := Lib.hid hO6
      have HF6 := Lib.hid hF6
      obtain ⟨A6, c6, rfl, _⟩ := hO6.chs
      clear hO6 hB6 hF6 hE6 HC HR5 HF5 HC5
      go_wp2_with fail
      refine HEr.out.mono ?_
      rintro e w7 ⟨rfl, rfl⟩
      go_wp2_with fail
      refine HCk.out.mono ?_
      rintro e w7 ⟨he7, hB7⟩
      obtain rfl : e = .returned .nilIface := he7
      have HB7 := Lib.hid hB7
      have hfew : (aft L).length ≤ 256 := HFew.out
      have hfewI : ¬ ((256 : Int) < (aft L).length) := by omega
      clear hB7 HCk HEr
      go_wp2
      go_ret2
      have hB : Below w.heap.size w w6 := HB2.out.trans (HF6.out.below HB2.out.size (by simpa using hrg))
      exact ⟨_, rfl, (HO6.out.below HB7.out (Nat.le_refl _)).mono (by have := HF6.out.size; have := HB2.out.size; have := HFr.out.size; rw [← HZ5.out]; omega), hB.trans (HB7.out.mono hB.size)⟩
end Go.Proofs.YtmpklljiddggpaaGreatDoor

/-
  The walks of jour's Open, and of a store's Keys and Used. Conditions: each theorem's own premises.
-/
namespace Go.Proofs.YtmpklljiddggpaaGreatDoor
open Go.Shelf Go.RowKit Go.Lib Go.Sort

/-- A store in memory, its records a row of its own in a block from base on. -/
structure StO (w : World) (base sb g : Nat) (h : Hd) (v : Value) (r : List Chg) : Prop where
  at_ : StAt w sb g h v
  own : OwnC w base v r
  lo : base ≤ sb
/-- What Open leaves. -/
def RetOpen (g : Nat) (h : Hd) (r : List Chg) (w : World) (e : Ending) (w' : World) : Prop := ∃ sb v, e = .returned (.tuple #[.pointer (some ⟨sb, 0, none⟩), .nilIface]) ∧ StO w' w.heap.size sb g h v r ∧ Below w.heap.size w w'
set_option maxRecDepth 100000 in
set_option maxHeartbeats 2000000 in
theorem open_any (h : Hd) (g f m : Nat) (s : DS) (r : List Chg) (w : World) (aE aS aR aC aF aM : Addr) (hD : Dk w g f m s) (hI : Inv s h r) (he : Errs w aE aS aR) (hE : Es w aR aC aF aM) (hc : s.calls < 4611686018427387904) :
    Calls Tryz.prog 17 #[.pointer (some ⟨g, 0, none⟩)] w (RetOpen g h r w) := by
  obtain ⟨L, hH, hr⟩ := hI.has
  have hage := hI.age
  have hlk := lookD_rest hI.pend
  have hrh := readHead_any h g f m s w aE aS aR hD he hI.down (by rw [hlk]; exact hH.hd) ⟨hH.age, by omega⟩ hH.half hH.used
  have hrs := fun W hW => readSectors_any h g f m s W (hD.below hW) hI.down hH.half hH.used
  rw [hlk, hH.cat] at hrs
  have hrn : roomN s.kept.length ≤ 8192 := by have := hD.nm; unfold roomN; omega
  have hus := hH.used
  have HRS := Lib.hid hrs
  have HOk := Lib.hid hH.ok
  have HR := Lib.hid hr
  have HFew := Lib.hid hI.few
  have HE := Lib.hid he
  have HE2 := Lib.hid hE
  clear hD hI he hE hH hlk hrs hr
  unfold RetHd hdV at hrh
  unfold hdV at HRS
  go_enter Tryz.func17, Tryz.ntmps17
  go_wp2_with fail
  refine hrh.mono ?_
  rintro e w1 ⟨rfl, hB1⟩
  have HB1 := Lib.hid hB1
  have h2b : Blk (w1.alloc (.cells #[.int .i64 h.age, .int .i64 (h.half : Int), .int .i64 (h.used : Int)] 68)) w1.heap.size 68 #[.int .i64 h.age, .int .i64 (h.half : Int), .int .i64 (h.used : Int)] := heap_alloc_new w1 _
  have h2B : Below w.heap.size w (w1.alloc (.cells #[.int .i64 h.age, .int .i64 (h.half : Int), .int .i64 (h.used : Int)] 68)) := hB1.alloc hB1.size _
  have HC2 := Lib.hid (HRS.out _ h2B)
  have Hb2 := Lib.hid h2b
  have HB2 := Lib.hid h2B
  have hw1 := hB1.size
  clear hB1 h2b h2B HRS hrh
  go_wp2_with fail
  refine HC2.out.mono ?_
  rintro e w3 ⟨v3, rfl, hO3, hl3, hB3⟩
  have HB3 := Lib.hid (HB2.out.trans (hB3.mono HB2.out.size))
  have Hb3 := Lib.hid (Hb2.out.below hB3 Hb2.out.lt)
  have HC3 := Lib.hid (readRecords_any v3 _ L w3 aE aS aR aC aF aM hO3 (HE.out.below HB3.out (Nat.le_refl _)) (HE2.out.fr ((Fr.refl [] w).belows HB3.out (Nat.le_refl _)) (by simp)) HOk.out (by omega) (by rw [HR.out]; exact HFew.out))
  clear hO3 hl3 hB3 HC2 Hb2
  go_wp2_with fail
  refine HC3.out.mono ?_
  rintro e w4 ⟨v4, rfl, hO4, hB4⟩
  rw [HR.out] at hO4
  have HB4 := Lib.hid (HB3.out.trans (hB4.mono HB3.out.size))
  have hb4 := Hb3.out.below hB4 Hb3.out.lt
  have b0 : w4.cell? ⟨w1.heap.size, 0, none⟩ = some (.int .i64 h.age) := hb4.cell 0
  have b1 : w4.cell? ⟨w1.heap.size, 1, none⟩ = some (.int .i64 (h.half : Int)) := hb4.cell 1
  have b2 : w4.cell? ⟨w1.heap.size, 2, none⟩ = some (.int .i64 (h.used : Int)) := hb4.cell 2
  obtain ⟨A4, c4, rfl, _⟩ := hO4.chs
  have HO4 := Lib.hid (hO4.mono HB3.out.size)
  clear hO4 hB4 hb4 HC3 Hb3
  go_wp2
  go_ret2
  refine ⟨w4.heap.size, _, rfl, ⟨heap_alloc_new w4 _, HO4.out.below ((Below.refl w4.heap.size w4).alloc (Nat.le_refl _) _) (Nat.le_refl _), HB4.out.size⟩, HB4.out.alloc HB4.out.size _⟩
end Go.Proofs.YtmpklljiddggpaaGreatDoor
