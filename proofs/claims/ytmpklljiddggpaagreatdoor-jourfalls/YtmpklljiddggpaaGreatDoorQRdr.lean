/-
  The walks of the reader's methods: fail, Num, Text, Bool, At, Left, Err. Conditions: each theorem's own premises.
-/
import Derived.Test.YtmpklljiddggpaaGreatDoorQNum
import Derived.Test.YtmpklljiddggpaaGreatDoorQBlk
namespace Go.Proofs.YtmpklljiddggpaaGreatDoor
open Go.RowKit

theorem Str.grown {w w' : World} {g : Nat} {A : Option Addr} {l : List UInt8} (h : Str w g A l) (hg : w.grownBy w' (some g)) (hlt : g ≤ w.heap.size) : Str w' g A l :=
  h.keep fun p hp => World.cell?_of_block (hg.block p.block (by omega) (by simp; omega))

theorem grown_setCell {a w : World} {g : Nat} (h : a.grownBy w (some g)) (i : Nat) (u : Value) : a.grownBy (w.setCell ⟨g, i, none⟩ u) (some g) :=
  ⟨h.os, h.tape, h.output, by simpa [World.setCell] using h.size, fun k hk hne => (Below.heap_setCell w ⟨g, i, none⟩ u k (fun e => hne (by rw [e]))).trans (h.block k hk hne)⟩
theorem grown_refl (w : World) (r : Option Nat) : w.grownBy w r := ⟨rfl, rfl, rfl, Nat.le_refl _, fun _ _ _ => rfl⟩
theorem grown_drewN {a w : World} {r : Option Nat} (h : a.grownBy w r) (n : Nat) : a.grownBy (w.drewN n) r := ⟨h.os, h.tape, h.output, h.size, h.block⟩
theorem grown_alloc {a w : World} {r : Option Nat} (h : a.grownBy w r) (o : Obj) : a.grownBy (w.alloc o) r :=
  ⟨h.os, h.tape, h.output, Nat.le_trans h.size (by simp), fun i hi hne => (Below.heap_alloc w o i (Nat.lt_of_lt_of_le hi h.size)).trans (h.block i hi hne)⟩
theorem grown_below {B g : Nat} {a w w' : World} (h : Below B a w) (hg : w.grownBy w' (some g)) (hB : B ≤ w.heap.size) (hr : B ≤ g) : Below B a w' := h.grown hg hB (fun k hk => by cases hk; exact hr)

theorem run_cutl (A : Option Addr) (n c k : Nat) (W : World) (h : k ≤ n) :
    (Instr.slice 88 (.slice A n c) (some (.int .i64 (k : Int))) none none).run Tryz.prog W = .ok (.slice (if c = k then A else A.map (·.add k)) (n - k) (c - k)) W := by
  have e := run_slice_l (P := Tryz.prog) (w := W) (t := 88) (a := A) (len := n) (cap := c) (by kernel_rfl) .i64 (k : Int) (by omega) (by omega)
  obtain ⟨i0, hi, hz0, hz1, hz2⟩ := info_parts Tryz.info8
  have he : Tryz.prog.elem 88 = 5 := by kernel_rfl
  rw [e, he]
  simp [sizeOf, typeInfo, hi, hz1, sliced]

/-- What Num leaves where there was no error. -/
def RetNumM (w : World) (g : Nat) (l : List UInt8) (k : Nat) (aE aS aR : Addr) (r : NumGot) (e : Ending) (w' : World) : Prop :=
  e = .returned (.int .i64 r.n) ∧ w.grownBy w' (some g) ∧
    (r.code = 0 ∧ Rd w' g l (k + r.size) .nilIface ∨ r.code ≠ 0 ∧ ∃ a, w.heap.size ≤ a ∧ Blk w' a 131 #[.int .i64 (k : Int), errOf aE aS aR r.code] ∧ Rd w' g l k (.iface 127 (.pointer (some ⟨a, 0, none⟩))))

theorem Errs.same {w w' : World} {aE aS aR : Addr} (h : Errs w aE aS aR) (hc : ∀ p, w'.cell? p = w.cell? p) : Errs w' aE aS aR := ⟨(hc _).trans h.e, (hc _).trans h.s, (hc _).trans h.r⟩

theorem rd_more {w W : World} {g : Nat} {A : Option Addr} {n c k s : Nat} {l : List UInt8} {x : Int} (hb : Blk w g 140 #[.slice A n c, .int .i64 (k : Int), .nilIface]) (hn : n = l.length) (hs : Str w g A l) (hnc : n ≤ c) (hcm : c ≤ maxLen)
    (hks : k + s ≤ n) (hl : n ≤ 4294967296) (hx : x = ((k + s : Nat) : Int)) (nq : Nat) (hW : W = (w.drewN nq).setCell ⟨g, 1, none⟩ (.int .i64 x)) : w.grownBy W (some g) ∧ Rd W g l (k + s) .nilIface := by
  subst hW
  have hg : w.grownBy ((w.drewN nq).setCell ⟨g, 1, none⟩ (.int .i64 x)) (some g) := grown_setCell (grown_drewN (grown_refl w _) nq) 1 _
  refine ⟨hg, A, n, c, ?_, hn, hs.grown hg (Nat.le_of_lt hb.lt), hnc, hcm, hks, hl⟩
  have := Blk.set (w := w.drewN nq) hb 1 (.int .i64 x)
  rw [hx] at this ⊢
  exact this
theorem rd_fail {w W : World} {g : Nat} {A : Option Addr} {n c k : Nat} {l : List UInt8} {o : Value} (hb : Blk w g 140 #[.slice A n c, .int .i64 (k : Int), .nilIface]) (hn : n = l.length) (hs : Str w g A l) (hnc : n ≤ c) (hcm : c ≤ maxLen)
    (hk : k ≤ n) (hl : n ≤ 4294967296) (nq : Nat) (hW : W = ((w.drewN nq).alloc (.cells #[.int .i64 (k : Int), o] 131)).setCell ⟨g, 2, none⟩ (.iface 127 (.pointer (some ⟨w.heap.size, 0, none⟩)))) :
    w.grownBy W (some g) ∧ ∃ a, w.heap.size ≤ a ∧ Blk W a 131 #[.int .i64 (k : Int), o] ∧ Rd W g l k (.iface 127 (.pointer (some ⟨a, 0, none⟩))) := by
  subst hW
  have hg : w.grownBy (((w.drewN nq).alloc (.cells #[.int .i64 (k : Int), o] 131)).setCell ⟨g, 2, none⟩ (.iface 127 (.pointer (some ⟨w.heap.size, 0, none⟩)))) (some g) :=
    grown_setCell (grown_alloc (grown_drewN (grown_refl w _) nq) _) 2 _
  refine ⟨hg, w.heap.size, Nat.le_refl _, ?_, A, n, c, ?_, hn, hs.grown hg (Nat.le_of_lt hb.lt), hnc, hcm, hk, hl⟩
  · exact Blk.far (heap_alloc_new (w.drewN nq) _) (p := ⟨g, 2, none⟩) (by have := hb.lt; show w.heap.size ≠ g; omega) _
  · exact Blk.set (Blk.alloc (w := w.drewN nq) hb _) 2 _

theorem fail_fin {E P Q C D : Prop} (hE : E) (hC : C) (R : P ∧ Q) : E ∧ P ∧ (D ∨ C ∧ Q) := ⟨hE, R.1, .inr ⟨hC, R.2⟩⟩

set_option maxHeartbeats 400000 in
theorem fail_any (g k : Nat) (u : Value) (T : TypeId) (a : Addr) (w : World) (hc1 : w.cell? ⟨g, 1, none⟩ = some (.int .i64 (k : Int))) (hc2 : w.cell? ⟨g, 2, none⟩ = some u) (hf2 : w.frozen? ⟨g, 2, none⟩ = false) :
    Calls Tryz.prog 88 #[.pointer (some ⟨g, 0, none⟩), .iface T (.pointer (some a))] w fun e w' => e = .returned (.tuple #[]) ∧
      (w.alloc (.cells #[.int .i64 (k : Int), .iface T (.pointer (some a))] 131)).setCell ⟨g, 2, none⟩ (.iface 127 (.pointer (some ⟨w.heap.size, 0, none⟩))) = w' := by
  have hlt := World.block_lt_of_cell? w _ hc2
  go_enter Tryz.func88, Tryz.ntmps88
  go_wp2
  go_end0
  exact ⟨rfl, rfl⟩

set_option maxHeartbeats 1000000 in
set_option maxRecDepth 100000 in
theorem num_ok (g : Nat) (l : List UInt8) (k : Nat) (lo hi : Int) (w : World) (aE aS aR : Addr) (hr : Rd w g l k .nilIface) (he : Errs w aE aS aR) :
    Calls Tryz.prog 62 #[.pointer (some ⟨g, 0, none⟩), .int .i64 lo, .int .i64 hi] w (RetNumM w g l k aE aS aR (numOf (l.drop k) lo hi)) := by
  obtain ⟨A, n, c, hb, hn, hs, hnc, hcm, hkn, hl⟩ := hr
  have hb' : Blk w g _ _ := hb
  have hc0 : w.cell? ⟨g, 0, none⟩ = some (.slice A n c) := hb'.cell 0
  have hc1 : w.cell? ⟨g, 1, none⟩ = some (.int .i64 (k : Int)) := hb'.cell 1
  have hc2 : w.cell? ⟨g, 2, none⟩ = some .nilIface := hb'.cell 2
  have hf1 := hb'.free 1
  have hf2 := hb'.free 2
  have hsl := fun W : World => run_cutl A n c k W hkn
  obtain ⟨A2, hA2⟩ : ∃ A2, A2 = if c = k then A else A.map (·.add k) := ⟨_, rfl⟩
  have hs2 : Str w g A2 (l.drop k) := by rw [hA2]; exact hs.cut' k (by omega)
  rw [← hA2] at hsl
  have hrn := fun j => readNum_any A2 (n - k) (c - k) (l.drop k) lo hi (w.drewN j) g aE aS aR (by simp; omega) (by omega) (hs2.keep fun _ _ => rfl) (he.same fun _ => rfl)
  have HRN := Lib.hid hrn
  have HB := Lib.hid hb'
  have HN := Lib.hid hn
  have HE := Lib.hid he
  have HS := Lib.hid hs
  unfold maxLen at hcm
  clear hrn hb hb' hn he hs hA2 hs2
  obtain ⟨r, hr⟩ : ∃ r, r = numOf (l.drop k) lo hi := ⟨_, rfl⟩
  rw [← hr] at HRN ⊢
  rcases numOf_code (l.drop k) lo hi with h0 | h1 | h1 | h1
  · rw [← hr] at h0
    have hk := numOf_ok (hr ▸ h0)
    rw [← hr] at hk
    obtain ⟨rc, rn, rs⟩ := r
    dsimp only at h0 hk
    subst h0
    unfold RetNum at HRN
    dsimp only [errOf] at HRN
    have HK := Lib.hid hk.2.2.2
    have hrs : rs ≤ n - k := by have := HK.out; have := HN.out; simp at *; omega
    clear hk hr
    go_enter Tryz.func62, Tryz.ntmps62
    go_wp2_with fail
    go_quiet ((go_at_call 87; exact Calls.quiet_of (HRN.out _)))
    go_wp2
    go_ret
    have R := rd_more (s := rs) (x := (k : Int) + (rs : Int)) HB.out HN.out HS.out hnc (by unfold maxLen; exact hcm) (show k + rs ≤ n by omega) hl (by omega) nq rfl
    exact ⟨rfl, R.1, .inl ⟨rfl, R.2⟩⟩
  all_goals
    rw [← hr] at h1
    subst h1
    clear hr
    unfold RetNum at HRN
    dsimp only [errOf] at HRN
    go_enter Tryz.func62, Tryz.ntmps62
    go_wp2_with fail
    go_quiet ((go_at_call 87; exact Calls.quiet_of (HRN.out _)))
    go_wp2_with fail
    refine (fail_any g k .nilIface _ _ (w.drewN _) (by exact hc1) (by exact hc2) (by exact hf2)).mono ?_
    rintro e w' ⟨rfl, rfl⟩
    go_wp2
    go_ret
    exact fail_fin rfl (by simp) (rd_fail HB.out HN.out HS.out hnc (by unfold maxLen; exact hcm) hkn hl _ rfl)

/-- What Text leaves where there was no error. -/
def RetTextM (w : World) (g : Nat) (l : List UInt8) (k : Nat) (aE aS aR : Addr) (r : TextGot) (e : Ending) (w' : World) : Prop :=
  e = .returned (.string ⟨r.s.toArray⟩) ∧ w.grownBy w' (some g) ∧
    (r.code = 0 ∧ Rd w' g l (k + r.size) .nilIface ∨ r.code ≠ 0 ∧ ∃ a, w.heap.size ≤ a ∧ Blk w' a 131 #[.int .i64 (k : Int), errOf aE aS aR r.code] ∧ Rd w' g l k (.iface 127 (.pointer (some ⟨a, 0, none⟩))))
theorem textOf_code (l : List UInt8) (m : Int) : (textOf l m).code = 0 ∨ textOf l m = ⟨1, [], 0⟩ ∨ textOf l m = ⟨2, [], 0⟩ ∨ textOf l m = ⟨3, [], 0⟩ := by
  unfold textOf
  rcases numOf_code l 0 m with h | h | h | h
  · rw [if_pos h]
    by_cases h2 : (l.length : Int) - ((numOf l 0 m).size : Int) < (numOf l 0 m).n
    · rw [if_pos h2]; simp
    · rw [if_neg h2]; simp
  all_goals rw [if_neg (by rw [h]; simp), h]; simp
theorem textOf_ok {l : List UInt8} {m : Int} (h : (textOf l m).code = 0) : (textOf l m).size ≤ l.length := by
  unfold textOf at h ⊢
  by_cases h0 : (numOf l 0 m).code = 0
  · rw [if_pos h0] at h ⊢
    have hk := numOf_ok h0
    by_cases h2 : (l.length : Int) - ((numOf l 0 m).size : Int) < (numOf l 0 m).n
    · rw [if_pos h2] at h; simp at h
    · rw [if_neg h2]
      show (numOf l 0 m).size + (numOf l 0 m).n.toNat ≤ _
      omega
  · rw [if_neg h0] at h; exact absurd h h0

set_option maxHeartbeats 1000000 in
set_option maxRecDepth 100000 in
theorem text_ok (g : Nat) (l : List UInt8) (k : Nat) (most : Int) (w : World) (aE aS aR : Addr) (hr : Rd w g l k .nilIface) (he : Errs w aE aS aR) (hm : most ≤ 4294967296) :
    Calls Tryz.prog 65 #[.pointer (some ⟨g, 0, none⟩), .int .i64 most] w (RetTextM w g l k aE aS aR (textOf (l.drop k) most)) := by
  obtain ⟨A, n, c, hb, hn, hs, hnc, hcm, hkn, hl⟩ := hr
  have hb' : Blk w g _ _ := hb
  have hc0 : w.cell? ⟨g, 0, none⟩ = some (.slice A n c) := hb'.cell 0
  have hc1 : w.cell? ⟨g, 1, none⟩ = some (.int .i64 (k : Int)) := hb'.cell 1
  have hc2 : w.cell? ⟨g, 2, none⟩ = some .nilIface := hb'.cell 2
  have hf1 := hb'.free 1
  have hf2 := hb'.free 2
  have hsl := fun W : World => run_cutl A n c k W hkn
  obtain ⟨A2, hA2⟩ : ∃ A2, A2 = if c = k then A else A.map (·.add k) := ⟨_, rfl⟩
  have hs2 : Str w g A2 (l.drop k) := by rw [hA2]; exact hs.cut' k (by omega)
  rw [← hA2] at hsl
  have hrn := fun j => readText_any A2 (n - k) (c - k) (l.drop k) most (w.drewN j) g aE aS aR (by simp; omega) (by omega) (by omega) (hs2.keep fun _ _ => rfl) (he.same fun _ => rfl) hm
  have HRN := Lib.hid hrn
  have HB := Lib.hid hb'
  have HN := Lib.hid hn
  have HS := Lib.hid hs
  unfold maxLen at hcm
  clear hrn hb hb' hn he hs hA2 hs2
  obtain ⟨r, hr⟩ : ∃ r, r = textOf (l.drop k) most := ⟨_, rfl⟩
  rw [← hr] at HRN ⊢
  rcases textOf_code (l.drop k) most with h0 | h1 | h1 | h1
  · rw [← hr] at h0
    have hk := textOf_ok (hr ▸ h0)
    rw [← hr] at hk
    obtain ⟨rc, rn, rs⟩ := r
    dsimp only at h0 hk
    subst h0
    unfold RetText at HRN
    dsimp only [errOf] at HRN
    have HK := Lib.hid hk
    have hrs : rs ≤ n - k := by have := HK.out; have := HN.out; simp at *; omega
    clear hk hr
    go_enter Tryz.func65, Tryz.ntmps65
    go_wp2_with fail
    go_quiet ((go_at_call 89; exact Calls.quiet_of (HRN.out _)))
    go_wp2
    go_ret
    have R := rd_more (s := rs) (x := (k : Int) + (rs : Int)) HB.out HN.out HS.out hnc (by unfold maxLen; exact hcm) (show k + rs ≤ n by omega) hl (by omega) nq rfl
    exact ⟨rfl, R.1, .inl ⟨rfl, R.2⟩⟩
  all_goals
    rw [← hr] at h1
    subst h1
    clear hr
    unfold RetText at HRN
    dsimp only [errOf] at HRN
    go_enter Tryz.func65, Tryz.ntmps65
    go_wp2_with fail
    go_quiet ((go_at_call 89; exact Calls.quiet_of (HRN.out _)))
    go_wp2_with fail
    refine (fail_any g k .nilIface _ _ (w.drewN _) (by exact hc1) (by exact hc2) (by exact hf2)).mono ?_
    rintro e w' ⟨rfl, rfl⟩
    go_wp2
    go_ret
    exact fail_fin rfl (by simp) (rd_fail HB.out HN.out HS.out hnc (by unfold maxLen; exact hcm) hkn hl _ rfl)

/-- Behind an error nothing is read. -/
theorem num_bad (g : Nat) (l : List UInt8) (k : Nat) (lo hi : Int) (w : World) (T : TypeId) (a : Addr) (hr : Rd w g l k (.iface T (.pointer (some a)))) :
    Calls Tryz.prog 62 #[.pointer (some ⟨g, 0, none⟩), .int .i64 lo, .int .i64 hi] w fun e w' => e = .returned (.int .i64 0) ∧ w = w' := by
  obtain ⟨A, n, c, hb, _⟩ := hr
  have hc2 : w.cell? ⟨g, 2, none⟩ = some (.iface T (.pointer (some a))) := Blk.cell hb 2
  clear hb
  go_enter Tryz.func62, Tryz.ntmps62
  go_wp2
  go_ret
  exact ⟨rfl, rfl⟩
theorem text_bad (g : Nat) (l : List UInt8) (k : Nat) (m : Int) (w : World) (T : TypeId) (a : Addr) (hr : Rd w g l k (.iface T (.pointer (some a)))) :
    Calls Tryz.prog 65 #[.pointer (some ⟨g, 0, none⟩), .int .i64 m] w fun e w' => e = .returned (.string ⟨#[]⟩) ∧ w = w' := by
  obtain ⟨A, n, c, hb, _⟩ := hr
  have hc2 : w.cell? ⟨g, 2, none⟩ = some (.iface T (.pointer (some a))) := Blk.cell hb 2
  clear hb
  go_enter Tryz.func65, Tryz.ntmps65
  go_wp2
  go_ret
  exact ⟨rfl, rfl⟩
theorem err_nil (g : Nat) (l : List UInt8) (k : Nat) (w : World) (hr : Rd w g l k .nilIface) :
    Calls Tryz.prog 63 #[.pointer (some ⟨g, 0, none⟩)] w fun e w' => e = .returned .nilIface ∧ w = w' := by
  obtain ⟨A, n, c, hb, _⟩ := hr
  have hc2 : w.cell? ⟨g, 2, none⟩ = some .nilIface := Blk.cell hb 2
  clear hb
  go_enter Tryz.func63, Tryz.ntmps63
  go_wp2
  go_ret
  exact ⟨rfl, rfl⟩
theorem err_bad (g : Nat) (l : List UInt8) (k : Nat) (w : World) (T : TypeId) (a : Addr) (hr : Rd w g l k (.iface T (.pointer (some a)))) :
    Calls Tryz.prog 63 #[.pointer (some ⟨g, 0, none⟩)] w fun e w' => e = .returned (.iface T (.pointer (some a))) ∧ w = w' := by
  obtain ⟨A, n, c, hb, _⟩ := hr
  have hc2 : w.cell? ⟨g, 2, none⟩ = some (.iface T (.pointer (some a))) := Blk.cell hb 2
  clear hb
  go_enter Tryz.func63, Tryz.ntmps63
  go_wp2
  go_ret
  exact ⟨rfl, rfl⟩
theorem left_any (g : Nat) (l : List UInt8) (k : Nat) (er : Value) (w : World) (hr : Rd w g l k er) :
    Calls Tryz.prog 64 #[.pointer (some ⟨g, 0, none⟩)] w fun e w' => e = .returned (.int .i64 ((l.length - k : Nat) : Int)) ∧ ∃ m, w' = w.drewN m := by
  obtain ⟨A, n, c, hb, hn, _, _, _, hkn, hl⟩ := hr
  have hc0 : w.cell? ⟨g, 0, none⟩ = some (.slice A n c) := Blk.cell hb 0
  have hc1 : w.cell? ⟨g, 1, none⟩ = some (.int .i64 (k : Int)) := Blk.cell hb 1
  have HN := Lib.hid hn
  clear hb hn
  go_enter Tryz.func64, Tryz.ntmps64
  go_wp2_with fail
  go_quiet (fail)
  go_wp2
  go_ret
  exact ⟨ret_int (by have := HN.out; omega), _, rfl⟩
end Go.Proofs.YtmpklljiddggpaaGreatDoor
