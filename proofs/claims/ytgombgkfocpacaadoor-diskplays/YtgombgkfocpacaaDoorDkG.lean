/-
  The walk of the disk's Clone, and Flush without power. Conditions: each theorem's own premises.
-/
import Derived.Test.YtgombgkfocpacaaDoorDkF
import Derived.Maps.AppendAt
import Derived.Lib.SliceRun
namespace Go.Proofs.YtgombgkfocpacaaDoor
open Go.RowKit Go.Maps

/-- The cells of contents, in a row. -/
def cellsOf : List Sec → List Value
  | [] => []
  | x :: r => .bool (secB x) :: .string ⟨(secS x).toArray⟩ :: cellsOf r
theorem cellsOf_length : ∀ K : List Sec, (cellsOf K).length = K.length * 2
  | [] => rfl
  | x :: r => by simp [cellsOf, cellsOf_length r]; omega
theorem cellsOf_at : ∀ (K : List Sec) (i : Nat) (x : Sec), K[i]? = some x → (cellsOf K)[i * 2]? = some (.bool (secB x)) ∧ (cellsOf K)[i * 2 + 1]? = some (.string ⟨(secS x).toArray⟩)
  | y :: r, 0, x, h => by simp at h; subst h; exact ⟨rfl, rfl⟩
  | y :: r, i + 1, x, h => by
    have h' := cellsOf_at r i x (by simpa using h)
    have e1 : (i + 1) * 2 = i * 2 + 1 + 1 := by omega
    rw [e1]
    exact ⟨by simpa [cellsOf] using h'.1, by simpa [cellsOf] using h'.2⟩
theorem cellsOf_only : ∀ (K : List Sec) (j : Nat) (v : Value), (cellsOf K)[j]? = some v → ∃ i x, K[i]? = some x ∧ (j = i * 2 ∧ v = .bool (secB x) ∨ j = i * 2 + 1 ∧ v = .string ⟨(secS x).toArray⟩)
  | y :: r, 0, v, h => ⟨0, y, rfl, .inl ⟨rfl, by simpa [cellsOf] using h.symm⟩⟩
  | y :: r, 1, v, h => ⟨0, y, rfl, .inr ⟨rfl, by simpa [cellsOf] using h.symm⟩⟩
  | y :: r, j + 2, v, h => by
    obtain ⟨i, x, hx, hh⟩ := cellsOf_only r j v (by simpa [cellsOf] using h)
    exact ⟨i + 1, x, by simpa using hx, by rcases hh with ⟨rfl, hv⟩ | ⟨rfl, hv⟩; exact .inl ⟨by omega, hv⟩; exact .inr ⟨by omega, hv⟩⟩
theorem cellsOf_one (K : List Sec) : ∀ u ∈ cellsOf K, u.oneCell' = true := by
  intro u hu
  obtain ⟨j, hj⟩ := List.mem_iff_getElem?.1 hu
  obtain ⟨i, x, _, ⟨_, rfl⟩ | ⟨_, rfl⟩⟩ := cellsOf_only K j u hj <;> rfl

/-- What slices.Clone leaves. -/
def RetCl (K : List Sec) (w : World) (e : Ending) (w' : World) : Prop :=
  ∃ f c, e = .returned (.slice (some ⟨f, 0, none⟩) K.length c) ∧ w.heap.size ≤ f ∧ Row w' f K ∧ K.length ≤ c ∧ c ≤ maxLen ∧ Below w.heap.size w w'
theorem append_row (w : World) (f c : Nat) (K : List Sec) (h : Row w f K) (h1 : 1 ≤ K.length) (h2 : K.length ≤ 16384) : ∃ v w', (∀ ty, (Builtin.append_ #[61, 61] ty #[.slice (some ⟨w.heap.size, 0, none⟩) 0 0, .slice (some ⟨f, 0, none⟩) K.length c]).run Tryd.prog (w.alloc (.cells #[] 71)) = .ok v w') ∧ RetCl K w (.returned v) w' := by
  obtain ⟨i, hi, hz, hs, hb⟩ := info_parts infoC
  obtain ⟨cs, hcs, hr⟩ := h
  have hB0 : Below w.heap.size w (w.alloc (.cells #[] 71)) := (Below.refl _ w).alloc (Nat.le_refl _) _
  have hown : (w.alloc (.cells #[] 71)).ownsRow w.heap.size 71 2 (.slice (some ⟨w.heap.size, 0, none⟩) 0 0) 0 [] :=
    ⟨rfl, .inr ⟨w.heap.size, 0, #[], rfl, Nat.le_refl _, heap_alloc_new w _, Nat.le_refl _, Nat.zero_le _, rfl, rfl⟩⟩
  have hcell : ∀ j u, (cellsOf K)[j]? = some u → (w.alloc (.cells #[] 71)).cell? ((⟨f, 0, none⟩ : Addr).add j) = some u := by
    intro j u hu
    rw [lit_add]
    have := (hcs.alloc (.cells #[] 71)).cell j
    rw [this]
    obtain ⟨i, x, hx, ⟨rfl, rfl⟩ | ⟨rfl, rfl⟩⟩ := cellsOf_only K j u hu
    · exact (hr i x hx).1
    · exact (hr i x hx).2
  have go := fun ty => run_append_own_at (P := Tryd.prog) (w.alloc (.cells #[] 71)) w.heap.size 61 ty 71 i _ 2 24 Tryd.underlying61 hi hz hs hb rfl (by omega) _ 0 [] hown ⟨f, 0, none⟩ K.length c (cellsOf K) (cellsOf_length K) hcell (cellsOf_one K)
    (by simp [maxLen]; omega) (by omega) (by simp)
  obtain ⟨v, w', hrun, ho, hg, hnil, hbk⟩ := go 0
  refine ⟨v, w', fun ty => ?_, ?_⟩
  · have : (Builtin.append_ #[61, 61] ty #[.slice (some ⟨w.heap.size, 0, none⟩) 0 0, .slice (some ⟨f, 0, none⟩) K.length c]) = (Builtin.append_ #[61, 61] 0 #[.slice (some ⟨w.heap.size, 0, none⟩) 0 0, .slice (some ⟨f, 0, none⟩) K.length c]) := rfl
    rw [this]
    exact hrun
  · rcases ho.2 with ⟨_, h0⟩ | ⟨g, cap, cur, rfl, hge, hgb, r1, r2, r3, r4⟩
    · omega
    · refine ⟨g, cap, by simp, hge, ⟨cur, hgb, fun i x hx => ?_⟩, by omega, r2, hB0.grown hg (Nat.le_of_lt (by simp)) (fun j hj => by simp [Value.ownBlock] at hj; omega)⟩
      have hci := cellsOf_at K i x hx
      have hil : i < K.length := (List.getElem?_eq_some_iff.1 hx).1
      simp only [List.nil_append, Nat.zero_add] at r4
      rw [← r4, List.getElem?_take, List.getElem?_take, if_pos (by omega), if_pos (by omega)] at hci
      simpa using hci

theorem wpList_append_eq {P : Program} {w : World} {ops : Array Oper} {rest : List Oper} {o : Oper} {a : Act} {Q : Exit → Act → World → Prop} (hgd : o.guard = none) (s x : Operand) (t : TypeId)
    (ho : o.op = .call { callee := .builtin .append, args := #[s, x], argTypes := #[t, t] }) (v u v' : Value) (w' : World) (hs : a.eval s = v) (hx : a.eval x = u) (hrun : (Builtin.append_ #[t, t] o.type #[v, u]).run P w = .ok v' w')
    (h : wpList P ops Q rest (a.put o.dst v') w') : wpList P ops Q (o :: rest) a w :=
  wpList_plain hgd fun _ hK => by
    unfold Oper.wp execOp
    simp only [ho, resolve, invoke, builtin, Sem.run_bind, Sem.run_pure, Result.andThen_ok, List.map_toArray, List.map_cons, List.map_nil, hs, hx, hrun]
    exact hK _ _ h

set_option maxRecDepth 100000 in
theorem cloneRow (w : World) (f n c : Nat) (K : List Sec) (h : Row w f K) (hn : n = K.length) (h1 : 1 ≤ K.length) (h2 : K.length ≤ 16384) :
    Calls Tryd.prog 33 #[.slice (some ⟨f, 0, none⟩) n c] w (RetCl K w) := by
  obtain ⟨v, w', hrun, hR⟩ := append_row w f c K h h1 h2
  rw [← hn] at hrun
  have HR := Lib.hid hR
  have hfl := h.lt
  have hq := fun W => Lib.run_eql_slice_nil (P := Tryd.prog) W 61 _ (some ⟨f, 0, none⟩) n c 0 0 Tryd.underlying61
  simp only [Option.isNone] at hq
  clear h hn hR
  go_enter Tryd.func33, Tryd.ntmps33
  go_wp2_with (first | (at_builtin; refine wpList_append_eq rfl _ _ 61 rfl _ _ v w' rfl rfl (hrun _) ?_) | go_in)
  go_ret
  exact HR.out

/-- What Clone leaves. -/
def RetK (s : DS) (w : World) (e : Ending) (w' : World) : Prop :=
  ∃ h f m, e = .returned (.pointer (some ⟨h, 0, none⟩)) ∧ w.heap.size ≤ h ∧ w.heap.size ≤ f ∧ w.heap.size ≤ m ∧ Dk w' h f m s ∧ Below w.heap.size w w'
set_option maxRecDepth 100000 in
set_option maxHeartbeats 400000 in
theorem clone_any (g f m : Nat) (s : DS) (w : World) (hD : Dk w g f m s) : Calls Tryd.prog 13 #[.pointer (some ⟨g, 0, none⟩)] w (RetK s w) := by
  obtain ⟨k, hH, hk1, hk2⟩ := hD.head
  have c0 : w.cell? ⟨g, 0, none⟩ = some (.slice (some ⟨f, 0, none⟩) s.kept.length k) := Blk.cell hH 0
  have c1 : w.cell? ⟨g, 1, none⟩ = some (.map (some m)) := Blk.cell hH 1
  have c2 : w.cell? ⟨g, 2, none⟩ = some (.int .i64 s.calls) := Blk.cell hH 2
  have c3 : w.cell? ⟨g, 3, none⟩ = some (.int .i64 s.armed) := Blk.cell hH 3
  have c4 : w.cell? ⟨g, 4, none⟩ = some (.bool s.down) := Blk.cell hH 4
  have hgl := hD.gl
  have HD := Lib.hid hD
  have HH := Lib.hid hH
  clear hD hH
  go_enter Tryd.func13, Tryd.ntmps13
  go_wp2_with fail
  have hH1 : Head (w.alloc (.cells #[.slice (some ⟨f, 0, none⟩) s.kept.length k, .map (some m), .int .i64 s.calls, .int .i64 s.armed, .bool s.down] 64)) w.heap.size f m s.kept.length k s.calls s.armed s.down := heap_alloc_new w _
  have hF1 : Fr [] w (w.alloc (.cells #[.slice (some ⟨f, 0, none⟩) s.kept.length k, .map (some m), .int .i64 s.calls, .int .i64 s.armed, .bool s.down] 64)) := (Fr.refl [] w).alloc _
  have hlt1 : w.heap.size < (w.alloc (.cells #[.slice (some ⟨f, 0, none⟩) s.kept.length k, .map (some m), .int .i64 s.calls, .int .i64 s.armed, .bool s.down] 64)).heap.size := by simp
  generalize w.alloc (.cells #[.slice (some ⟨f, 0, none⟩) s.kept.length k, .map (some m), .int .i64 s.calls, .int .i64 s.armed, .bool s.down] 64) = w1 at *
  generalize hh : w.heap.size = h at *
  refine (cloneRow w1 f _ k s.kept (HD.out.row.fr hF1 (by simp)) rfl HD.out.n1 HD.out.nm).mono ?_
  rintro e w2 ⟨f2, c2', rfl, hf2, hrow2, hc2a, hc2b, hB2⟩
  have hF2 := hF1.belows hB2 (by omega)
  have hH2 : Head w2 h f m s.kept.length k s.calls s.armed s.down := Blk.below hH1 hB2 hlt1
  have d0 : w2.cell? ⟨h, 0, none⟩ = some (.slice (some ⟨f, 0, none⟩) s.kept.length k) := Blk.cell hH2 0
  have y0 := Blk.free hH2 0
  have hg2 : w2.cell? ⟨g, 1, none⟩ = some (.map (some m)) := (World.cell?_of_block (a := ⟨g, 1, none⟩) (hF2.block g (by omega) (by simp))).trans c1
  have HH2 := Lib.hid hH2
  have HF2 := Lib.hid hF2
  have HR2 := Lib.hid hrow2
  have hs2 := hB2.size
  have hne : h ≠ g := by omega
  clear hH1 hF1 hH2 hF2 hrow2 hB2 c0 c2 c3 c4
  go_wp2_with fail
  have hF3 : Fr [] w (w2.setCell ⟨h, 0, none⟩ (.slice (some ⟨f2, 0, none⟩) s.kept.length c2')) := HF2.out.set (.inr (show w.heap.size ≤ h by omega)) _
  have hH3 : Head (w2.setCell ⟨h, 0, none⟩ (.slice (some ⟨f2, 0, none⟩) s.kept.length c2')) h f2 m s.kept.length c2' s.calls s.armed s.down := Blk.set HH2.out 0 _
  have hF23 : Fr [h] w2 (w2.setCell ⟨h, 0, none⟩ (.slice (some ⟨f2, 0, none⟩) s.kept.length c2')) := (Fr.refl [h] w2).set (.inl (by simp)) _
  have hR3 := HR2.out.fr hF23 (by simp; omega)
  have hs3 := hF23.size
  generalize w2.setCell ⟨h, 0, none⟩ (.slice (some ⟨f2, 0, none⟩) s.kept.length c2') = w3 at *
  refine (copy_any m _ _ w3 (owns_fr HD.out.map hF3 (by simp))).mono ?_
  rintro e w4 ⟨rfl, hO4, _, hB4, hlt4⟩
  have hH4 : Head w4 h f2 m s.kept.length c2' s.calls s.armed s.down := Blk.below hH3 hB4 (Blk.lt hH3)
  have hF4 := hF3.belows hB4 (by omega)
  have hR4 : Row w4 f2 s.kept := hR3.fr ((Fr.refl [] w3).belows hB4 (Nat.le_refl _)) (by simp)
  have d1 : w4.cell? ⟨h, 1, none⟩ = some (.map (some m)) := Blk.cell hH4 1
  have y1 := Blk.free hH4 1
  have HF4 := Lib.hid hF4
  have HH4 := Lib.hid hH4
  have HR4 := Lib.hid hR4
  have HO4 := Lib.hid hO4
  have hs4 := hB4.size
  clear hF3 hH3 hF23 hR3 hB4 hO4 hH4 hF4 hR4 HR2 HF2 HH2 d0 y0 hg2
  go_wp2
  go_ret
  have hF5 : Fr [h] w4 (w4.setCell ⟨h, 1, none⟩ (.map (some w3.heap.size))) := (Fr.refl [h] w4).set (.inl (by simp)) _
  refine ⟨h, f2, w3.heap.size, rfl, by omega, by omega, by omega, ⟨⟨c2', Blk.set HH4.out 1 _, hc2a, hc2b⟩, HR4.out.fr hF5 (by simp; omega), owns_fr HO4.out hF5 (by simp; omega), HD.out.ok, HD.out.n1, HD.out.nm, HD.out.small, by omega⟩, ?_⟩
  exact (HF4.out.set (p := ⟨h, 1, none⟩) (.inr (show w.heap.size ≤ h by omega)) _).below (Nat.le_refl _) (by simp)

set_option maxRecDepth 100000 in
set_option maxHeartbeats 400000 in
theorem flush_err (g f m : Nat) (s : DS) (w : World) (aR aC aF aM : Addr) (hD : Dk w g f m s) (hE : Es w aR aC aF aM) (hlow : 0 < g ∧ 1 < g ∧ 2 < g ∧ 3 < g)
    (ha : -9223372036854775808 ≤ s.armed ∧ s.armed ≤ 9223372036854775807) (hno : powN s.armed s.down = true) :
    Calls Tryd.prog 17 #[.pointer (some ⟨g, 0, none⟩)] w (RetE aC g f m s w) := by
  obtain ⟨k, hH, hk1, hk2⟩ := hD.head
  have HD := Lib.hid hD
  have HH := Lib.hid hH
  have HA := Lib.hid ha
  have HE := Lib.hid hE
  have HN := Lib.hid hno
  clear hD hH ha hE hno
  go_enter Tryd.func17, Tryd.ntmps17
  go_wp2_with fail
  refine (powered_head g f m _ k _ _ _ w HH.out HA.out).mono ?_
  rintro e w1 ⟨rfl, hH1, hF1⟩
  have hE1 := HE.out.fr hF1 (by simp; omega)
  obtain ⟨eR, eC, eF, eM⟩ := hE1
  have hfin := HD.out.fused hF1 hH1 hk1 hk2
  have HF1 := Lib.hid hF1
  have HFin := Lib.hid hfin
  rw [HN.out]
  clear hH1 hF1 hfin eR eF eM
  go_wp2
  go_ret
  exact ⟨rfl, HFin.out, HF1.out⟩
end Go.Proofs.YtgombgkfocpacaaDoor
