/-
  The walk of the disk's Flush. Conditions: each theorem's own premises.
-/
import Derived.Test.YtgombgkfocpacaaDoorDkE
namespace Go.Proofs.YtgombgkfocpacaaDoor
open Go.RowKit Go.Maps

/-- What is kept behind a flush. -/
def flushK (s : DS) : List Sec := (List.range s.kept.length).map (lookD s)
/-- A flush that does well. -/
def flushD (s : DS) : DS := ⟨flushK s, [], s.calls + 1, powA s.armed, false⟩

/-- Where the loop of Flush stands. -/
def FlRel (w : World) (g f m r : Nat) (s : DS) (wr : World) : Prop :=
  ∃ (left : Lit → Bool) (cnt : Nat) (K : List Sec), wr.ranges Tryd.prog 3 contR m r s.pend.length (toD s.pend) left cnt ∧ K.length = s.kept.length ∧ Dk wr g f m { s with kept := K } ∧
    (∀ i : Nat, i < s.kept.length → K.getD i none = if left (.int .i64 (i : Int)) then s.kept.getD i none else lookD s i) ∧ Fr [f, r] w wr

theorem secV_inv (v : Value) (y : DataW Unit × List MemPlace) (h : contR v = some y) : ∃ c : Sec, v = secV c := by
  rcases contR_inv h with ⟨rfl, _⟩ | ⟨b, _, rfl, _⟩
  · exact ⟨none, rfl⟩
  · exact ⟨some b, rfl⟩
theorem secV_inj {a b : Sec} (h : secV a = secV b) : a = b := by
  cases a <;> cases b <;> simp [secV] at h ⊢
  exact h

theorem sec_getD {K : List Sec} {j i : Nat} {x : Sec} (hj : j < K.length) : (K.set j x).getD i none = if j = i then x else K.getD i none := by
  by_cases e : j = i
  · subst e
    simp [List.getD, List.getElem?_set_self hj]
  · simp [List.getD, List.getElem?_set_ne e, e]
theorem fl_start {w1 w0 : World} {g f m : Nat} {s : DS} (hD : Dk w1 g f m s) (hr : w0.ranges Tryd.prog 3 contR m w1.heap.size s.pend.length (toD s.pend) (has (toD s.pend)) (size (toD s.pend))) (hg : w1.grownBy w0 none) : FlRel w1 g f m w1.heap.size s w0 := by
  have hF : Fr [] w1 w0 := (Fr.refl [] w1).grown hg (by simp)
  refine ⟨_, _, s.kept, hr, rfl, hD.fr hF (by simp) (by simp) (by simp), fun i hi => ?_, hF.more (by simp)⟩
  rw [has_toD]
  split
  · rfl
  · rename_i h
    unfold lookD
    cases hq : getP (i : Int) s.pend with
    | none => rfl
    | some b => rw [hq] at h; simp at h
theorem fl_end {s : DS} {left : Lit → Bool} {K : List Sec} (hl : K.length = s.kept.length) (hK : ∀ i : Nat, i < s.kept.length → K.getD i none = if left (.int .i64 (i : Int)) then s.kept.getD i none else lookD s i) (h0 : ∀ kl, left kl = false) : K = flushK s := by
  refine List.ext_getElem (by simp [flushK, hl]) fun i h1 h2 => ?_
  have := hK i (by omega)
  rw [h0] at this
  simp [List.getD, List.getElem?_eq_getElem h1] at this
  simp [flushK, this]
theorem fl_key {p : Pend} {x : Int} {c : Sec} {kl : Lit} {y : DataW Unit × List MemPlace} (hk : keyOf Tryd.prog 3 (.int .i64 x) = some kl) (hy : contR (secV c) = some y) (hat : ∀ zd, (toD p).atKey kl zd = y.1) : kl = .int .i64 x ∧ ∃ b, c = some b ∧ getP x p = some b := by
  obtain ⟨x', ex, rfl, _⟩ := Maps.keyOf_int_inv Tryd.underlying3 hk
  cases ex
  have hh := Maps.has_true_of_atKey hat
  rw [has_toD] at hh
  obtain ⟨b, hb⟩ := Option.isSome_iff_exists.1 hh
  have h1 := hat .nil
  rw [atKey_toD, hb] at h1
  refine ⟨rfl, b, ?_, hb⟩
  rcases y with ⟨y1, y2⟩
  obtain rfl : DataW.lit (.string b) = y1 := h1
  exact secV_inj (contR_lit hy)

theorem Fr.grownBy {f : Nat} {w w' : World} (h : Fr [f] w w') : w.grownBy w' (some f) := ⟨h.os, h.tape, h.output, h.size, fun k hk hn => h.block k hk (by simpa using hn)⟩
theorem fl_step {w w3 : World} {g f m r j cnt : Nat} {s : DS} {left : Lit → Bool} {K : List Sec} {b : List UInt8} (hr : w3.ranges Tryd.prog 3 contR m r s.pend.length (toD s.pend) (fun z => left z && !z.sameKey (.int .i64 (j : Int))) cnt)
    (hKl : K.length = s.kept.length) (hD : Dk w3 g f m { s with kept := K }) (hK : ∀ i : Nat, i < s.kept.length → K.getD i none = if left (.int .i64 (i : Int)) then s.kept.getD i none else lookD s i) (hF : Fr [f, r] w w3)
    (hb : getP (j : Int) s.pend = some b) (hj : j < K.length) (hbl : b.length ≤ 128) (hrf : r ≠ f) (o : Obj) :
    FlRel w g f m r s ((((w3.setCell ⟨f, j * 2, none⟩ (.bool true)).setCell ⟨f, j * 2 + 1, none⟩ (.string ⟨b.toArray⟩)).alloc o).drew) ∧
    ((((w3.setCell ⟨f, j * 2, none⟩ (.bool true)).setCell ⟨f, j * 2 + 1, none⟩ (.string ⟨b.toArray⟩)).alloc o).drew).rangeLeft m r = cnt := by
  obtain ⟨h1, h2⟩ := hD.put j (some b) hj hbl
  have h3 : Fr [f] w3 ((((w3.setCell ⟨f, j * 2, none⟩ (.bool true)).setCell ⟨f, j * 2 + 1, none⟩ (.string ⟨b.toArray⟩)).alloc o).drew) := (h2.alloc o).drew 1
  have h4 : Fr [] ((w3.setCell ⟨f, j * 2, none⟩ (.bool true)).setCell ⟨f, j * 2 + 1, none⟩ (.string ⟨b.toArray⟩)) ((((w3.setCell ⟨f, j * 2, none⟩ (.bool true)).setCell ⟨f, j * 2 + 1, none⟩ (.string ⟨b.toArray⟩)).alloc o).drew) := ((Fr.refl [] _).alloc o).drew 1
  have hr' := hr.kept h3.grownBy (by simpa using hD.mf) (by simpa using hrf)
  refine ⟨⟨_, cnt, K.set j (some b), hr', by rw [List.length_set]; exact hKl, h1.fr h4 (by simp) (by simp) (by simp), fun i hi => ?_, hF.trans h3 (by simp)⟩, hr'.left_eq⟩
  rw [sec_getD hj, same_int]
  by_cases e : j = i
  · subst e
    simp [lookD, hb]
  · rw [if_neg e, hK i hi, decide_eq_false (by omega)]
    simp

/-- What Flush leaves where it does well. -/
def RetF (g f m : Nat) (s : DS) (w : World) (e : Ending) (w' : World) : Prop := e = .returned .nilIface ∧ ∃ m', (m' = m ∨ w.heap.size ≤ m') ∧ Dk w' g f m' s ∧ Fr [g, f] w w'
set_option maxRecDepth 100000 in
set_option maxHeartbeats 1000000 in
theorem flush_ok (g f m : Nat) (s : DS) (w : World) (hD : Dk w g f m s) (hp : powN s.armed s.down = false) (ha : -9223372036854775808 ≤ s.armed ∧ s.armed ≤ 9223372036854775807) (hc : 0 ≤ s.calls ∧ s.calls < 4611686018427387904) :
    Calls Tryd.prog 17 #[.pointer (some ⟨g, 0, none⟩)] w (RetF g f m (flushD s) w) := by
  obtain ⟨k, hH, hk1, hk2⟩ := hD.head
  have HD := Lib.hid hD
  have HH := Lib.hid hH
  have HP := Lib.hid hp
  have HA := Lib.hid ha
  clear hD hH hp ha
  go_enter Tryd.func17, Tryd.ntmps17
  go_wp2_with fail
  refine (powered_head g f m _ k _ _ _ w HH.out HA.out).mono ?_
  rintro e w1 ⟨rfl, hH1, hF1⟩
  rw [HP.out] at hH1 ⊢
  have hD1 := HD.out.fused hF1 hH1 hk1 hk2
  have c1 : w1.cell? ⟨g, 1, none⟩ = some (.map (some m)) := Blk.cell hH1 1
  have hown := hD1.map
  have HD1 := Lib.hid hD1
  have HF1 := Lib.hid hF1
  clear hH1 hF1 hD1
  go_wp2_with (first
    | (at_range; refine wpList_range_own _ rfl _ 62 rfl 3 71 (int_keyed Tryd.underlying3) Tryd.underlying62 _ m s.pend.length _ rfl hown ?_; intro w0 hrg0 hg0 hs0)
    | go_in)
  go_frame
  have H0 := Lib.hid (fl_start (s := { s with armed := powA s.armed, down := false }) HD1.out hrg0 hg0)
  have hrl := hrg0.lt
  clear hrg0 hg0 hs0 hown hrl
  go_loopw [3] (fun _ wr => FlRel w1 g f m w1.heap.size { s with armed := powA s.armed, down := false } wr) (fun _ wr => wr.rangeLeft m w1.heap.size)
  case atStart => exact H0.out
  case round =>
    obtain ⟨left, cnt, K, hrg, hKl, hDk, hK, hFr⟩ := hrel
    go_wp2_with (first
      | (at_next; refine wpList_next_ranges _ rfl _ rfl 3 (int_keyed Tryd.underlying3) contR (Value.int .i64) secV (fun key kl hkey => by obtain ⟨x, rfl, _⟩ := Maps.keyOf_int_inv Tryd.underlying3 hkey; exact ⟨x, rfl⟩) secV_inv m w1.heap.size _ _ _ _ rfl hrg ?_ ?_)
      | go_in)
    · intro hc0 hl0
      have hKe : K = flushK s := fl_end hKl hK hl0
      subst hKe
      obtain ⟨k2, hH2, h21, h22⟩ := hDk.head
      have HDk := Lib.hid hDk
      have HFr := Lib.hid hFr
      have HH2 := Lib.hid hH2
      clear hDk hFr hH2 hK hKl hrg hl0
      go_wp2_with fail
      refine (settle_head g f m _ k2 _ _ _ wr HH2.out).mono ?_
      rintro e w4 ⟨rfl, hH4, hO4, hF4⟩
      have c2 : w4.cell? ⟨g, 2, none⟩ = some (.int .i64 s.calls) := Blk.cell hH4 2
      have z2 := Blk.free hH4 2
      have HH4 := Lib.hid hH4
      have HO4 := Lib.hid hO4
      have HF4 := Lib.hid hF4
      clear hH4 hO4 hF4
      go_wp2
      go_ret
      have hF0 : Fr [g] wr (w4.setCell ⟨g, 2, none⟩ (.int .i64 (s.calls + 1))) := HF4.out.set (.inl (by simp)) _
      have hlw := HFr.out.size
      have hlw2 := HF1.out.size
      refine ⟨rfl, wr.heap.size, .inr (by omega), ⟨⟨k2, Blk.set HH4.out 2 _, h21, h22⟩, HDk.out.row.fr hF0 (by simp [HDk.out.fg]), ?_, OkP.nil _, HDk.out.n1, HDk.out.nm, HDk.out.small, HDk.out.fg⟩, ?_⟩
      · have hgl := HDk.out.gl
        exact HO4.out.setCell (a := ⟨g, 2, none⟩) (show wr.heap.size ≠ g by omega) _
      · exact ((HF1.out.more (S' := [g, f]) (by simp)).trans HFr.out (by simp; omega)).trans hF0 (by simp)
    · intro x c kl y1 y2 w3 cnt3 hkey hlx hv hat hrg3 hlt hg3 hs3 hen
      obtain ⟨rfl, b, rfl, hb⟩ := fl_key hkey hv hat
      have hF3 : Fr [w1.heap.size] wr w3 := (Fr.refl _ wr).grown hg3 (by simp)
      have hfl := HD1.out.fl
      have hgl := HD1.out.gl
      have hml := HD1.out.ml
      have hD3 := hDk.fr hF3 (by simp; omega) (by simp; omega) (by simp; omega)
      have hF03 := hFr.trans hF3 (by simp)
      have hin := hDk.ok.2 _ (getP_mem hb)
      simp only at hin
      obtain ⟨j, rfl⟩ : ∃ j : Nat, x = (j : Int) := ⟨x.toNat, by omega⟩
      have hj : j < K.length := by omega
      have hjI : (j : Int) < K.length := by omega
      have hfin := fun o => fl_step (s := { s with armed := powA s.armed, down := false }) hrg3 hKl hD3 hK hF03 hb hj hin.2.2 (by omega) o
      have HFin := Lib.hid hfin
      have hmeas : w3.rangeLeft m w1.heap.size < wr.rangeLeft m w1.heap.size := by rw [hrg3.left_eq, hrg.left_eq]; exact hlt
      have HM := Lib.hid (show cnt3 < wr.rangeLeft m w1.heap.size by rw [hrg.left_eq]; exact hlt)
      obtain ⟨k2, hH2, h21, h22⟩ := hD3.head
      have c0' : w3.cell? ⟨g, 0, none⟩ = some (.slice (some ⟨f, 0, none⟩) K.length k2) := Blk.cell hH2 0
      obtain ⟨cs, hcs, hrow⟩ := hD3.row
      obtain ⟨r0, r1⟩ := hrow j _ (List.getElem?_eq_getElem hj)
      have d0 : w3.cell? ⟨f, j * 2, none⟩ = _ := (Blk.cell hcs (j * 2)).trans r0
      have d1 : w3.cell? ⟨f, j * 2 + 1, none⟩ = _ := (Blk.cell hcs (j * 2 + 1)).trans r1
      have z0 := Blk.free hcs (j * 2)
      have z1 := Blk.free hcs (j * 2 + 1)
      have hgl3 := hD3.gl
      have hfl3 := hD3.fl
      change (Instr.entry (.pointer (some ⟨w1.heap.size, 0, none⟩))).run Tryd.prog w3 = .ok (.tuple #[.int .i64 (j : Int), .agg #[.bool true, .string ⟨b.toArray⟩]]) w3 at hen
      clear hkey hlx hv hat hrg3 hlt hg3 hs3 hrg hKl hDk hK hFr hF3 hD3 hF03 hfin hmeas hcs hrow r0 r1 hH2 hb hin
      go_wp2_with fail
      go_region
      go_wp2
      go_roundw
      case rel => exact (HFin.out _).1
      case measure => rw [(HFin.out _).2]; exact HM.out
end Go.Proofs.YtgombgkfocpacaaDoor
