/-
  The walks of the library's IndexFunc and DeleteFunc at changes, and of jour.after. Conditions: each theorem's own premises.
-/
import Derived.Test.YtmpklljiddggpaaGreatDoorQJoD
import Derived.Lib.SliceRun
namespace Go.Proofs.YtmpklljiddggpaaGreatDoor
open Go.Shelf Go.RowKit Go.Lib Go.Sort

theorem blk_setCells {g : Nat} {t : TypeId} : ∀ (vs : List Value) (o : Nat) {w : World} {cs : Array Value}, Blk w g t cs → ∃ cs', Blk (w.setCells g o vs) g t cs' ∧ cs'.size = cs.size ∧ (∀ j, j < o → cs'[j]? = cs[j]?) ∧ Fr [g] w (w.setCells g o vs)
  | [], o, w, cs, h => ⟨cs, h, rfl, fun _ _ => rfl, Fr.refl _ _⟩
  | v :: r, o, w, cs, h => by
    obtain ⟨cs', h1, h2, h3, h4⟩ := blk_setCells r (o + 1) (h.set o v)
    refine ⟨cs', h1, by rw [h2]; simp, fun j hj => ?_, ((Fr.refl [g] w).set (p := ⟨g, o, none⟩) (.inl (by simp)) v).trans h4 (by simp)⟩
    rw [h3 j (by omega), Array.getElem?_setIfInBounds, if_neg (by omega)]

/-- A row of our own at a block. -/
structure RowC (w : World) (g cap : Nat) (l : List Chg) : Prop where
  blk : ∃ cs, Blk w g 55 cs ∧ cs.size = cap * 3 ∧ cs.toList.take (l.length * 3) = cellsL l
  le : l.length ≤ cap
  max : cap ≤ maxLen
section
variable {w w' : World} {g cap base : Nat} {l : List Chg}
theorem RowC.own (h : RowC w g cap l) (hb : base ≤ g) : OwnC w base (.slice (some ⟨g, 0, none⟩) l.length cap) l := by
  obtain ⟨⟨cs, h1, h2, h3⟩, h4, h5⟩ := h
  exact OwnC.of hb h1 h4 h5 h2 h3
theorem RowC.lt (h : RowC w g cap l) : g < w.heap.size := by obtain ⟨⟨cs, h1, _⟩, _⟩ := h; exact h1.lt
theorem RowC.cell (h : RowC w g cap l) {i : Nat} (hi : i < l.length) : (w.cell? ⟨g, i * 3, none⟩ = some (.string ⟨l[i].key.toArray⟩) ∧ w.cell? ⟨g, i * 3 + 1, none⟩ = some (.string ⟨l[i].val.toArray⟩) ∧ w.cell? ⟨g, i * 3 + 2, none⟩ = some (.bool l[i].gone)) ∧
    w.frozen? ⟨g, i * 3, none⟩ = false ∧ w.frozen? ⟨g, i * 3 + 1, none⟩ = false ∧ w.frozen? ⟨g, i * 3 + 2, none⟩ = false := by
  obtain ⟨⟨cs, h1, h2, h3⟩, h4, h5⟩ := h
  obtain ⟨g1, g2, g3⟩ := cellsL_get l i l[i] (List.getElem?_eq_getElem hi)
  have go : ∀ j v, (cellsL l)[j]? = some v → w.cell? ⟨g, j, none⟩ = some v := fun j v hv => by
    rw [h1.cell]
    rw [← h3, List.getElem?_take] at hv
    split at hv
    · simpa using hv
    · cases hv
  exact ⟨⟨go _ _ g1, go _ _ g2, go _ _ g3⟩, h1.free _, h1.free _, h1.free _⟩
theorem RowC.fr {S : List Nat} (h : RowC w g cap l) (f : Fr S w w') (hg : g ∉ S) : RowC w' g cap l := by
  obtain ⟨⟨cs, h1, h2⟩, h3, h4⟩ := h
  exact ⟨⟨cs, h1.fr f hg, h2⟩, h3, h4⟩
theorem RowC.below {B : Nat} (h : RowC w g cap l) (f : Below B w w') (hg : g < B) : RowC w' g cap l := by
  obtain ⟨⟨cs, h1, h2⟩, h3, h4⟩ := h
  exact ⟨⟨cs, h1.below f hg, h2⟩, h3, h4⟩
theorem own_row {v : Value} (h : OwnC w base v l) : (v = .slice none 0 0 ∧ l = []) ∨ ∃ g cap, v = .slice (some ⟨g, 0, none⟩) l.length cap ∧ base ≤ g ∧ RowC w g cap l := by
  rcases h.form with h | ⟨g, cap, cs, rfl, hb, hg, h1, h2, h3, h4⟩
  · exact .inl h
  · exact .inr ⟨g, cap, rfl, hb, ⟨cs, hg, h3, h4⟩, h1, h2⟩
theorem cellsL_set : ∀ (l : List Chg) (i : Nat) (c : Chg) (t : Nat), i < l.length → (cellsL (l.set i c))[t]? = if t = i * 3 then some (.string ⟨c.key.toArray⟩) else if t = i * 3 + 1 then some (.string ⟨c.val.toArray⟩) else if t = i * 3 + 2 then some (.bool c.gone) else (cellsL l)[t]? := by
  intro l i c t hi
  rw [cellsL_at, cellsL_at]
  by_cases e : t / 3 = i
  · rw [e, List.getElem?_set_self hi]
    have h3 : t % 3 = 0 ∨ t % 3 = 1 ∨ t % 3 = 2 := by omega
    rcases h3 with h3 | h3 | h3
    · rw [if_pos (by omega), h3]; rfl
    · rw [if_neg (by omega), if_pos (by omega), h3]; rfl
    · rw [if_neg (by omega), if_neg (by omega), if_pos (by omega), h3]; rfl
  · rw [List.getElem?_set_ne (fun h => e h.symm), if_neg (by omega), if_neg (by omega), if_neg (by omega)]
theorem RowC.set (h : RowC w g cap l) {i : Nat} (hi : i < l.length) (c : Chg) :
    RowC (((w.setCell ⟨g, i * 3, none⟩ (.string ⟨c.key.toArray⟩)).setCell ⟨g, i * 3 + 1, none⟩ (.string ⟨c.val.toArray⟩)).setCell ⟨g, i * 3 + 2, none⟩ (.bool c.gone)) g cap (l.set i c) ∧
    Fr [g] w (((w.setCell ⟨g, i * 3, none⟩ (.string ⟨c.key.toArray⟩)).setCell ⟨g, i * 3 + 1, none⟩ (.string ⟨c.val.toArray⟩)).setCell ⟨g, i * 3 + 2, none⟩ (.bool c.gone)) := by
  obtain ⟨⟨cs, h1, h2, h3⟩, h4, h5⟩ := h
  refine ⟨⟨⟨_, ((h1.set (i * 3) _).set (i * 3 + 1) _).set (i * 3 + 2) _, by simpa using h2, ?_⟩, by simpa using h4, h5⟩, (((Fr.refl [g] w).set (.inl (by simp)) _).set (.inl (by simp)) _).set (.inl (by simp)) _⟩
  rw [List.length_set]
  refine List.ext_getElem? fun t => ?_
  rw [cellsL_set l i c t hi, ← h3, List.getElem?_take, List.getElem?_take, Array.getElem?_toList, Array.getElem?_toList]
  simp only [Array.getElem?_setIfInBounds, Array.size_setIfInBounds]
  by_cases ht : t < l.length * 3
  · rw [if_pos ht, if_pos ht]
    by_cases e1 : t = i * 3
    · subst e1
      rw [if_neg (by omega), if_neg (by omega), if_pos rfl, if_pos (by omega), if_pos rfl]
    · by_cases e2 : t = i * 3 + 1
      · subst e2
        rw [if_neg (by omega), if_pos rfl, if_pos (by omega), if_neg (by omega), if_pos rfl]
      · by_cases e3 : t = i * 3 + 2
        · subst e3
          rw [if_pos rfl, if_pos (by omega), if_neg (by omega), if_neg (by omega), if_pos rfl]
        · rw [if_neg (by omega), if_neg (by omega), if_neg (by omega), if_neg e1, if_neg e2, if_neg e3]
  · rw [if_neg ht, if_neg ht, if_neg (by omega), if_neg (by omega), if_neg (by omega)]
theorem cellsL_take (l : List Chg) (i : Nat) : cellsL (l.take i) = (cellsL l).take (i * 3) := by
  refine List.ext_getElem? fun t => ?_
  rw [cellsL_at, List.getElem?_take, List.getElem?_take, cellsL_at]
  by_cases h : t < i * 3
  · rw [if_pos h, if_pos (by omega)]
  · rw [if_neg h, if_neg (by omega)]
    rfl
/-- clear of what stands behind i. -/
theorem RowC.clear (h : RowC w g cap l) {i : Nat} (hi : i < l.length) (c : Nat) : ∃ w', (∀ ty, (Builtin.clear_ #[35] ty #[.slice (some ⟨g, i * 3, none⟩) (l.length - i) c]).run Tryz.prog w = .ok (.tuple #[]) w') ∧ RowC w' g cap (l.take i) ∧ Fr [g] w w' := by
  have hcell := fun {j : Nat} (hj : j < l.length) => h.cell hj
  obtain ⟨⟨cs, h1, h2, h3⟩, h4, h5⟩ := h
  obtain ⟨i0, hin, hz0, hz1, hz2⟩ := info_parts infoJ
  have hzc : (Builtin.zeroCells (Value.agg #[.string ⟨#[]⟩, .string ⟨#[]⟩, .bool false]).cells (l.length - i)).toList.length = (l.length - i) * 3 := by
    rw [Array.length_toList, size_zeroCells]
    rfl
  have hone : ∀ v ∈ (Builtin.zeroCells (Value.agg #[.string ⟨#[]⟩, .string ⟨#[]⟩, .bool false]).cells (l.length - i)).toList, v.oneCell' = true := by
    intro v hv
    obtain ⟨j, hj, rfl⟩ := List.mem_iff_getElem.1 hv
    have : j % 3 = 0 ∨ j % 3 = 1 ∨ j % 3 = 2 := by omega
    have hs : (Value.agg #[Value.string ⟨#[]⟩, Value.string ⟨#[]⟩, Value.bool false]).cells = #[Value.string ⟨#[]⟩, Value.string ⟨#[]⟩, Value.bool false] := rfl
    simp only [Builtin.zeroCells, hs, Array.getElem_toList]
    rcases this with e | e | e <;> simp [e, Value.oneCell']
  generalize hvs : (Builtin.zeroCells (Value.agg #[.string ⟨#[]⟩, .string ⟨#[]⟩, .bool false]).cells (l.length - i)).toList = vs at *
  have hst := run_storeCells_cells (P := Tryz.prog) g (i * 3) vs 0 w (fun j hj => by
      rw [hzc] at hj
      rw [h1.cell, Array.getElem?_eq_getElem (by omega)]
      rfl) (fun j hj => h1.free _) hone
  simp only [Nat.add_zero] at hst
  obtain ⟨cs', k1, k2, k3, k4⟩ := blk_setCells vs (i * 3) h1
  refine ⟨_, fun ty => ?_, ⟨⟨cs', k1, k2.trans h2, ?_⟩, by simp; omega, h5⟩, k4⟩
  · obtain ⟨m, hm⟩ : ∃ m, l.length - i = m + 1 := ⟨l.length - i - 1, by omega⟩
    rw [hm] at hvs ⊢
    simp [Builtin.clear_, run_underlying Tryz.underlying35, zeroValue, typeInfo, hin, hz0, hvs, hst]
  · rw [cellsL_take, ← h3, List.take_take, List.length_take, Nat.min_eq_left (by omega), Nat.min_eq_left (by omega)]
    refine List.ext_getElem? fun t => ?_
    rw [List.getElem?_take, List.getElem?_take]
    by_cases h : t < i * 3
    · rw [if_pos h, if_pos h, Array.getElem?_toList, Array.getElem?_toList, k3 t h]
    · rw [if_neg h, if_neg h]
end

/-- What is asked of a function that says of a change whether it goes. -/
def Dels (f : Nat) (lb : Array Value) (p : Chg → Bool) (B : Nat) (w : World) : Prop :=
  ∀ W, Below B w W → ∀ c : Chg, Calls Tryz.prog f (#[.agg #[.string ⟨c.key.toArray⟩, .string ⟨c.val.toArray⟩, .bool c.gone]] ++ lb) W fun e w' => e = .returned (.bool (p c)) ∧ Below W.heap.size W w'
theorem Dels.later {f : Nat} {lb : Array Value} {p : Chg → Bool} {B : Nat} {w w' : World} (h : Dels f lb p B w) (hb : Below B w w') : Dels f lb p B w' := fun W hW => h W (hb.trans hW)

/-- What IndexFunc leaves. -/
def RetIx (p : Chg → Bool) (l : List Chg) (w : World) (e : Ending) (w' : World) : Prop :=
  Below w.heap.size w w' ∧ ((e = .returned (.int .i64 (-1)) ∧ ∀ c ∈ l, p c = false) ∨ ∃ i, ∃ h : i < l.length, e = .returned (.int .i64 (i : Int)) ∧ p l[i] = true ∧ ∀ j (hj : j < i), p l[j] = false)
set_option maxRecDepth 100000 in
set_option maxHeartbeats 1000000 in
theorem index_row (f : Nat) (lb : Array Value) (p : Chg → Bool) (B g cap : Nat) (l : List Chg) (w : World) (eg : ∀ args w, (callFunc f args).run Tryz.prog w = .ok (.enter f args) w) (hd : Dels f lb p B w) (hR : RowC w g cap l) (hB : B ≤ w.heap.size) (hl : l.length ≤ 1099511627776) :
    Calls Tryz.prog 69 #[.slice (some ⟨g, 0, none⟩) l.length cap, .func (.func f) #[] lb] w (RetIx p l w) := by
  have HD := Lib.hid hd
  have HR := Lib.hid hR
  have hgl := hR.lt
  clear hd hR
  go_enter Tryz.func69, Tryz.ntmps69
  go_wp2
  go_loopg [5, 8] l.length (fun kx s5 s8 wr => ∃ k : Nat, s8 = .int .i64 k ∧ k ≤ l.length ∧ l.length - k ≤ kx ∧ Hid (∀ j (hj : j < k) (h : j < l.length), p l[j] = false) ∧ Hid (Below w.heap.size w wr))
  case atStart => exact ⟨0, rfl, by omega, by omega, Lib.hid (fun j hj => by omega), Lib.hid (Below.refl _ _)⟩
  case round =>
    obtain ⟨k, rfl, hkn, hkx, HN, HB⟩ := hrel
    by_cases hlt : k < l.length
    · have hltI : (k : Int) < l.length := by omega
      obtain ⟨⟨c0, c1, c2⟩, _⟩ := (HR.out.below HB.out hgl).cell hlt
      have hc := HD.out wr (HB.out.mono hB) l[k]
      generalize hx : l[k] = x at c0 c1 c2 hc
      have HX := Lib.hid hx
      clear hx
      have HC := Lib.hid hc
      clear hc
      cases hp : p x
      · have hc := HC.out
        rw [hp] at hc
        clear HC
        go_wp2_with (go_at_fn f; refine hc.mono ?_; rintro e w2 ⟨rfl, hB2⟩; have HB2 := Lib.hid (HB.out.trans (hB2.mono HB.out.size)); clear hB2)
        go_roundg (l.length - (k + 1))
        case measure => omega
        case rel => exact ⟨k + 1, by go_num, by omega, Nat.le_refl _, Lib.hid (fun j hj h => by
          rcases Nat.lt_or_ge j k with h1 | h1
          · exact HN.out j h1 h
          · obtain rfl : j = k := by omega
            rw [HX.out]; exact hp), HB2⟩
      · have hc := HC.out
        rw [hp] at hc
        clear HC
        go_wp2_with (go_at_fn f; refine hc.mono ?_; rintro e w2 ⟨rfl, hB2⟩; have HB2 := Lib.hid (HB.out.trans (hB2.mono HB.out.size)); clear hB2)
        go_ret
        exact ⟨HB2.out, .inr ⟨k, hlt, rfl, by rw [HX.out]; exact hp, fun j hj => HN.out j hj (by omega)⟩⟩
    · have hltI : ¬ (k : Int) < l.length := by omega
      go_wp2
      go_ret
      refine ⟨HB.out, .inl ⟨rfl, fun c hc => ?_⟩⟩
      obtain ⟨j, hj, rfl⟩ := List.mem_iff_getElem.1 hc
      exact HN.out j (by omega) hj
end Go.Proofs.YtmpklljiddggpaaGreatDoor

/-
  The walks of the library's DeleteFunc at changes, and of jour.after. Conditions: each theorem's own premises.
-/
namespace Go.Proofs.YtmpklljiddggpaaGreatDoor
open Go.Shelf Go.RowKit Go.Lib Go.Sort

/-- What the row holds when j have been looked at, i of them kept. -/
structure DelI (p : Chg → Bool) (l X : List Chg) (i j : Nat) : Prop where
  len : X.length = l.length
  lt : i < j
  le : j ≤ l.length
  front : X.take i = (l.take j).filter fun c => !p c
  back : X.drop j = l.drop j
section
variable {p : Chg → Bool} {l X : List Chg} {i j : Nat}
theorem DelI.start (hi : i < l.length) (hp : p l[i] = true) (hf : ∀ j (hj : j < i), p l[j] = false) : DelI p l l i (i + 1) := by
  refine ⟨rfl, by omega, by omega, ?_, rfl⟩
  rw [List.take_succ_eq_append_getElem hi, List.filter_append]
  simp only [List.filter_cons, hp, Bool.not_true, Bool.false_eq_true, if_false, List.filter_nil, List.append_nil]
  symm
  rw [List.filter_eq_self]
  intro c hc
  obtain ⟨q, hq, rfl⟩ := List.mem_iff_getElem.1 hc
  rw [List.getElem_take, hf q (by simp at hq; omega)]
  rfl
theorem DelI.at_ (h : DelI p l X i j) (hj : j < l.length) : X[j]'(by rw [h.len]; exact hj) = l[j] := by
  have := congrArg (fun d => d[0]?) h.back
  simp only [List.getElem?_drop, Nat.add_zero] at this
  rw [List.getElem?_eq_getElem (by rw [h.len]; exact hj), List.getElem?_eq_getElem hj] at this
  exact Option.some.inj this
theorem DelI.skip (h : DelI p l X i j) (hj : j < l.length) (hp : p l[j] = true) : DelI p l X i (j + 1) :=
  ⟨h.len, by have := h.lt; omega, by omega, by
    rw [List.take_succ_eq_append_getElem hj, List.filter_append, h.front]
    simp [hp], by rw [← List.drop_drop, ← List.drop_drop, h.back]⟩
theorem DelI.keep (h : DelI p l X i j) (hj : j < l.length) (hp : p l[j] = false) : DelI p l (X.set i l[j]) (i + 1) (j + 1) := by
  have hlt := h.lt
  have hle := h.le
  have hx : i < X.length := by rw [h.len]; omega
  refine ⟨by rw [List.length_set]; exact h.len, by omega, by omega, ?_, ?_⟩
  · rw [List.take_succ_eq_append_getElem hj, List.filter_append, ← h.front, List.take_succ_eq_append_getElem (by rw [List.length_set]; exact hx), List.take_set_of_le (Nat.le_refl _)]
    simp [hp]
  · rw [List.drop_set_of_lt (by omega), ← List.drop_drop, ← List.drop_drop, h.back]
theorem DelI.done (h : DelI p l X i l.length) : X.take i = l.filter fun c => !p c := by rw [h.front, List.take_length]
end

set_option maxRecDepth 100000 in
set_option maxHeartbeats 2000000 in
theorem delete_row (f : Nat) (lb : Array Value) (p : Chg → Bool) (B g cap : Nat) (l : List Chg) (w : World) (eg : ∀ args w, (callFunc f args).run Tryz.prog w = .ok (.enter f args) w) (hd : Dels f lb p B w) (hR : RowC w g cap l) (hB : B ≤ g) (hl : l.length ≤ 1099511627776) :
    Calls Tryz.prog 43 #[.slice (some ⟨g, 0, none⟩) l.length cap, .func (.func f) #[] lb] w fun e w' => ∃ v, e = .returned v ∧ OwnC w' g v (l.filter fun c => !p c) ∧ Below B w w' := by
  have hgl := hR.lt
  have hci := index_row f lb p B g cap l w eg hd hR (by omega) hl
  have HD := Lib.hid hd
  have HR := Lib.hid hR
  have hcap := hR.le
  have hmax := hR.max
  unfold maxLen at hmax
  clear hd hR
  go_enter Tryz.func43, Tryz.ntmps43
  go_wp2_with fail
  refine hci.mono ?_
  rintro e w1 ⟨hB1, ⟨rfl, hall⟩ | ⟨i0, hi0, rfl, hp0, hf0⟩⟩
  · have HB1 := Lib.hid hB1
    have HA := Lib.hid hall
    clear hB1 hall hci
    go_wp2
    go_ret
    refine ⟨_, rfl, ?_, HB1.out.mono (by omega)⟩
    rw [List.filter_eq_self.2 (fun c hc => by rw [HA.out c hc]; rfl)]
    exact (HR.out.below HB1.out hgl).own (Nat.le_refl _)
  · have HI := Lib.hid (DelI.start hi0 hp0 hf0)
    have HR1 := Lib.hid (HR.out.below hB1 hgl)
    have HF1 : Hid (Fr [g] w w1) := Lib.hid ((Fr.refl [g] w).belows hB1 (Nat.le_refl _))
    have hne : (((i0 : Int)) == -1) = false := by rw [beq_eq_false_iff_ne]; omega
    clear hB1 hp0 hf0 hci
    go_wp2
    go_loopg [5, 6, 7] l.length (fun kx s5 s6 s7 wr => ∃ (i j : Nat) (X : List Chg), s5 = .int .i64 i ∧ s6 = .int .i64 j ∧ i < j ∧ j ≤ l.length ∧ l.length - j ≤ kx ∧ Hid (DelI p l X i j) ∧ Hid (RowC wr g cap X) ∧ Hid (Fr [g] w wr))
    case atStart => exact ⟨i0, i0 + 1, l, rfl, by go_num, by omega, by omega, by omega, HI, HR1, HF1⟩
    case round =>
      clear HI HR1 HF1
      obtain ⟨i, j, X, rfl, rfl, hij, hjn, hkx, HI, HX, HF⟩ := hrel
      have hXl : X.length = l.length := HI.out.len
      by_cases hlt : j < l.length
      · have hltI : (j : Int) < l.length := by omega
        obtain ⟨⟨c0, c1, c2⟩, _⟩ := HX.out.cell (i := j) (by omega)
        have hat := HI.out.at_ hlt
        have hsk := HI.out.skip hlt
        have hke := HI.out.keep hlt
        rw [hat] at c0 c1 c2
        generalize l[j] = x at c0 c1 c2 hsk hke
        have HSk := Lib.hid hsk
        have HKe := Lib.hid hke
        clear hat hsk hke hXl
        have hiX : i < X.length := by have := HI.out.len; omega
        have hiL : (i : Int) < l.length := by omega
        go_wp2_with fail
        have h3B : Below wr.heap.size wr (wr.alloc (.cells #[.string ⟨x.key.toArray⟩, .string ⟨x.val.toArray⟩, .bool x.gone] 55)) := (Below.refl _ wr).alloc (Nat.le_refl _) _
        have h3b : Blk (wr.alloc (.cells #[.string ⟨x.key.toArray⟩, .string ⟨x.val.toArray⟩, .bool x.gone] 55)) wr.heap.size 55 #[.string ⟨x.key.toArray⟩, .string ⟨x.val.toArray⟩, .bool x.gone] := heap_alloc_new wr _
        have hgr := HX.out.lt
        have HX3 := Lib.hid (HX.out.below h3B hgr)
        have HF3 := Lib.hid (HF.out.belows h3B HF.out.size)
        have hws := HF.out.size
        generalize (wr.alloc (.cells #[.string ⟨x.key.toArray⟩, .string ⟨x.val.toArray⟩, .bool x.gone] 55)) = W at *
        have H3b := Lib.hid h3b
        have b0 : W.cell? ⟨wr.heap.size, 0, none⟩ = some (.string ⟨x.key.toArray⟩) := h3b.cell 0
        have b1 : W.cell? ⟨wr.heap.size, 1, none⟩ = some (.string ⟨x.val.toArray⟩) := h3b.cell 1
        have b2 : W.cell? ⟨wr.heap.size, 2, none⟩ = some (.bool x.gone) := h3b.cell 2
        have hWl := h3b.lt
        have hc := HD.out W (HF3.out.below (by omega) (by simpa using hB)) x
        clear h3B h3b HX HF
        cases hp : p x
        · rw [hp] at hc
          go_wp2_with (go_at_fn f; refine hc.mono ?_; rintro e w2 ⟨rfl, hB2⟩; have HX4 := Lib.hid (HX3.out.below hB2 (by omega)); have HF4 := Lib.hid (HF3.out.belows hB2 (by omega)); obtain ⟨⟨e0, e1, e2⟩, z0, z1, z2⟩ := HX4.out.cell hiX; have d0 := (hB2.cell (p := ⟨wr.heap.size, 0, none⟩) hWl).trans b0; have d1 := (hB2.cell (p := ⟨wr.heap.size, 1, none⟩) hWl).trans b1; have d2 := (hB2.cell (p := ⟨wr.heap.size, 2, none⟩) hWl).trans b2; clear hB2)
          have hset := HX4.out.set hiX x
          have HX5 := Lib.hid hset.1
          have HF5 := Lib.hid (HF4.out.trans hset.2 (by simp))
          clear hset
          go_roundg (l.length - (j + 1))
          case measure => omega
          case rel => exact ⟨i + 1, j + 1, X.set i x, by go_num, by go_num, by omega, by omega, Nat.le_refl _, Lib.hid (HKe.out hp), HX5, HF5⟩
        · rw [hp] at hc
          go_wp2_with (go_at_fn f; refine hc.mono ?_; rintro e w2 ⟨rfl, hB2⟩; have HX4 := Lib.hid (HX3.out.below hB2 (by omega)); have HF4 := Lib.hid (HF3.out.belows hB2 (by omega)); clear hB2)
          go_roundg (l.length - (j + 1))
          case measure => omega
          case rel => exact ⟨i, j + 1, X, rfl, by go_num, by omega, by omega, Nat.le_refl _, Lib.hid (HSk.out hp), HX4, HF4⟩
      · obtain rfl : j = l.length := by omega
        have hltI : ¬ (l.length : Int) < l.length := by omega
        obtain ⟨w9, hcl, hR9, hF9⟩ := HX.out.clear (i := i) (by omega) (cap - i)
        rw [hXl] at hcl
        have HR9 := Lib.hid hR9
        have HF9 := Lib.hid (HF.out.trans hF9 (by simp))
        have hicap : i < cap := by omega
        clear hR9 hF9 hXl
        go_wp2
        go_ret
        have hd := HI.out.done
        have hlen : (X.take i).length = i := by rw [List.length_take]; have := HI.out.len; omega
        have ho := HR9.out.own (base := g) (Nat.le_refl _)
        rw [hlen, hd] at ho
        exact ⟨_, rfl, ho, HF9.out.below (by omega) (by simpa using hB)⟩

set_option maxRecDepth 100000 in
theorem index_nil (fv : Value) (w : World) : Calls Tryz.prog 69 #[.slice none 0 0, fv] w fun e w' => e = .returned (.int .i64 (-1)) ∧ w' = w := by
  go_enter Tryz.func69, Tryz.ntmps69
  go_wp2
  refine wp_loop_rounds 1 ?_
  rw [rounds_succ]
  go_wp2
  go_ret
  exact ⟨rfl, rfl⟩
set_option maxRecDepth 100000 in
theorem delete_nil (fv : Value) (w : World) : Calls Tryz.prog 43 #[.slice none 0 0, fv] w fun e w' => e = .returned (.slice none 0 0) ∧ w' = w := by
  have hc := index_nil fv w
  go_enter Tryz.func43, Tryz.ntmps43
  go_wp2_with fail
  refine hc.mono ?_
  rintro e w2 ⟨rfl, rfl⟩
  go_wp2
  go_ret
  exact ⟨rfl, rfl⟩
/-- DeleteFunc of a row of our own, nil or not. -/
theorem delete_own (f : Nat) (lb : Array Value) (p : Chg → Bool) (B : Nat) (v : Value) (l : List Chg) (w : World) (eg : ∀ args w, (callFunc f args).run Tryz.prog w = .ok (.enter f args) w) (hd : Dels f lb p B w) (hO : OwnC w B v l) (hl : l.length ≤ 1099511627776) :
    Calls Tryz.prog 43 #[v, .func (.func f) #[] lb] w fun e w' => ∃ v, e = .returned v ∧ OwnC w' B v (l.filter fun c => !p c) ∧ Below B w w' := by
  rcases own_row hO with ⟨rfl, rfl⟩ | ⟨g, cap, rfl, hb, hR⟩
  · refine (delete_nil _ w).mono ?_
    rintro e w2 ⟨rfl, rfl⟩
    exact ⟨_, rfl, OwnC.nil _ _, Below.refl _ _⟩
  · refine (delete_row f lb p B g cap l w eg hd hR hb hl).mono ?_
    rintro e w2 ⟨v, rfl, h1, h2⟩
    exact ⟨v, rfl, h1.mono hb, h2⟩

set_option maxRecDepth 100000 in
theorem gone_call (c : Chg) (w : World) : Calls Tryz.prog 46 #[.agg #[.string ⟨c.key.toArray⟩, .string ⟨c.val.toArray⟩, .bool c.gone]] w fun e w' => e = .returned (.bool c.gone) ∧ Below w.heap.size w w' := by
  go_enter Tryz.func46, Tryz.ntmps46
  go_wp2
  go_ret
  exact ⟨rfl, (Below.refl _ w).alloc (Nat.le_refl _) _⟩
theorem dels_gone (B : Nat) (w : World) : Dels 46 #[] (fun c => c.gone) B w := fun W _ c => gone_call c W

/-- What a call that answers changes of its own leaves. -/
def RetCs (l : List Chg) (w : World) (e : Ending) (w' : World) : Prop := ∃ v, e = .returned v ∧ OwnC w' w.heap.size v l ∧ Below w.heap.size w w'
theorem setl_length (l : List Chg) : (setl l).length ≤ l.length := by
  suffices ∀ (l a : List Chg), (l.foldl (fun a c => insC (strip c) a) a).length ≤ a.length + l.length by
    have := this l []
    simpa [setl] using this
  intro l
  induction l with
  | nil => intro a; simp
  | cons c r ih =>
    intro a
    have h1 : ∀ a : List Chg, (insC (strip c) a).length ≤ a.length + 1 := by
      intro a
      induction a with
      | nil => simp [insC]
      | cons x q ihq =>
        unfold insC
        split
        · simp
        · split
          · simp
          · simp; omega
    have := ih (insC (strip c) a)
    have := h1 a
    simp only [List.foldl_cons, List.length_cons]
    omega
set_option maxRecDepth 100000 in
theorem after_any (A : Option Addr) (m c : Nat) (ls : List SlV) (w : World) (hm : m = ls.length) (hL : Lists w w.heap.size A ls) (hs : (flat ls).length ≤ 4294967296) (hml : m ≤ 1099511627776) :
    Calls Tryz.prog 26 #[.slice A m c] w (RetCs (aft (flat ls)) w) := by
  have hc := settled_any A m c ls w hm hL hs hml
  have hsl := setl_length (flat ls)
  have HS := Lib.hid (show (setl (flat ls)).length ≤ 1099511627776 by omega)
  clear hm hL hs hsl
  go_enter Tryz.func26, Tryz.ntmps26
  go_wp2_with fail
  refine hc.mono ?_
  rintro e w1 ⟨v1, rfl, hO1, hB1⟩
  have hd := delete_own 46 #[] (fun c => c.gone) w.heap.size v1 (setl (flat ls)) w1 (enters_of Tryz.func46 (by kernel_rfl) rfl) (dels_gone _ _) hO1 HS.out
  have HB1 := Lib.hid hB1
  clear hO1 hB1 hc
  go_wp2_with fail
  refine hd.mono ?_
  rintro e w2 ⟨v2, rfl, hO2, hB2⟩
  go_wp2
  go_ret
  exact ⟨_, rfl, hO2, HB1.out.trans hB2⟩
end Go.Proofs.YtmpklljiddggpaaGreatDoor

/-
  The walks of the library's BinarySearchFunc at changes, and of a store's Get, effective. Conditions: each theorem's own premises.
-/
namespace Go.Proofs.YtmpklljiddggpaaGreatDoor
open Go.Shelf Go.RowKit Go.Lib Go.Sort

set_option maxHeartbeats 1000000 in
theorem get_cmp (x : Chg) (y : List UInt8) (w : World) : Calls Tryz.prog 41 #[.agg #[.string ⟨x.key.toArray⟩, .string ⟨x.val.toArray⟩, .bool x.gone], .string ⟨y.toArray⟩] w fun e w' => e = .returned (.int .i64 (cmpK x.key y)) ∧ Below w.heap.size w w' := by
  have hcon := fun W' => compare_str x.key y W'
  generalize cmpK x.key y = r at hcon ⊢
  go_enter Tryz.func41, Tryz.ntmps41
  go_wp2_with (go_at_call 42; refine (hcon _).mono ?_; rintro e w' ⟨rfl, rfl⟩)
  go_ret
  exact ⟨rfl, (Below.refl _ w).alloc (Nat.le_refl _) _⟩

/-- What the search leaves: a place, and whether the key stands there. -/
def RetBs (l : List Chg) (k : List UInt8) (w : World) (e : Ending) (w' : World) : Prop :=
  Below w.heap.size w w' ∧ ((∃ i, ∃ h : i < l.length, l[i].key = k ∧ e = .returned (.tuple #[.int .i64 (i : Int), .bool true])) ∨ (getC k l = none ∧ ∃ i : Nat, e = .returned (.tuple #[.int .i64 (i : Int), .bool false])))
theorem search_none {l : List Chg} {k : List UInt8} {i : Nat} (h1 : ∀ j (hj : j < l.length), j < i → l[j].key < k) (h2 : ∀ j (hj : j < l.length), i ≤ j → ¬ l[j].key < k) (h3 : ∀ h : i < l.length, l[i].key ≠ k) (hr : Rises l) : getC k l = none := by
  refine getC_none fun x hx e => ?_
  obtain ⟨j, hj, rfl⟩ := List.mem_iff_getElem.1 hx
  rcases Nat.lt_or_ge j i with h | h
  · have := h1 j hj h
    rw [e] at this
    exact lt_irr _ this
  · rcases Nat.eq_or_lt_of_le h with h | h
    · subst h
      exact h3 hj e
    · have ha := List.pairwise_iff_getElem.1 hr i j (by omega) hj h
      rw [e] at ha
      exact h2 i (by omega) (Nat.le_refl _) ha
set_option maxRecDepth 100000 in
set_option maxHeartbeats 2000000 in
theorem search_any (A : Option Addr) (c B : Nat) (l : List Chg) (k : List UInt8) (w : World) (hC : Chs w B A l) (hB : B ≤ w.heap.size) (hr : Rises l) (hl : l.length ≤ 1099511627776) :
    Calls Tryz.prog 40 #[.slice A l.length c, .string ⟨k.toArray⟩, .func (.func 41) #[] #[]] w (RetBs l k w) := by
  have HC := Lib.hid hC
  have HR := Lib.hid hr
  clear hC hr
  go_enter Tryz.func40, Tryz.ntmps40
  go_wp2
  go_loopg [9, 10, 11] l.length (fun kx s9 s10 s11 wr => ∃ (i j : Nat), s9 = .int .i64 i ∧ s10 = .int .i64 j ∧ i ≤ j ∧ j ≤ l.length ∧ j - i ≤ kx ∧ Hid (∀ q (hq : q < l.length), q < i → l[q].key < k) ∧ Hid (∀ q (hq : q < l.length), j ≤ q → ¬ l[q].key < k) ∧ Hid (Below w.heap.size w wr))
  case atStart => exact ⟨0, l.length, rfl, rfl, by omega, by omega, by omega, Lib.hid (fun q hq h => by omega), Lib.hid (fun q hq h => by omega), Lib.hid (Below.refl _ _)⟩
  case round =>
    obtain ⟨i, j, rfl, rfl, hij, hjl, hkx, H1, H2, HB⟩ := hrel
    by_cases hlt : i < j
    · have hltI : (i : Int) < j := by omega
      obtain ⟨h, hh⟩ : ∃ h : Nat, h = (i + j) / 2 := ⟨_, rfl⟩
      have hhI : ((i : Int) + j) / 2 = (h : Int) := by omega
      have hih : i ≤ h := by omega
      have hhj : h < j := by omega
      have hhl : h < l.length := by omega
      have hhlI : (h : Int) < l.length := by omega
      have HH := Lib.hid hh
      clear hh
      obtain ⟨ad, rfl, hb, c0, c1, c2⟩ := (HC.out.below (HB.out.mono hB)).pick hhl
      have hc := get_cmp l[h] k wr
      have hup : ∀ q (hq : q < l.length), h ≤ q → ¬ l[h].key < k → ¬ l[q].key < k := fun q hq h1 h2 h3 => by
        rcases Nat.eq_or_lt_of_le h1 with h1 | h1
        · subst h1; exact h2 h3
        · exact h2 (lt_tr (List.pairwise_iff_getElem.1 HR.out h q hhl hq h1) h3)
      have hdn : ∀ q (hq : q < l.length), q ≤ h → l[h].key < k → l[q].key < k := fun q hq h1 h2 => by
        rcases Nat.eq_or_lt_of_le h1 with h1 | h1
        · subst h1; exact h2
        · exact lt_tr (List.pairwise_iff_getElem.1 HR.out q h hq hhl h1) h2
      have HU := Lib.hid hup
      have HDn := Lib.hid hdn
      clear hup hdn
      have hneg := @cmpK_neg l[h].key k
      generalize cmpK l[h].key k = r at hc hneg
      generalize hx : l[h] = x at c0 c1 c2 hc
      have HN := Lib.hid hneg
      clear hneg hx
      by_cases hv : r < 0
      · go_wp2_with (go_at_call 41; refine hc.mono ?_; rintro e w2 ⟨rfl, hB2⟩; have HB2 := Lib.hid (HB.out.trans (hB2.mono HB.out.size)); clear hB2)
        go_roundg (j - (h + 1))
        case measure => omega
        case rel => exact ⟨h + 1, j, by go_num, rfl, by omega, hjl, Nat.le_refl _, Lib.hid (fun q hq h1 => HDn.out q hq (by omega) (HN.out.1 hv)), H2, HB2⟩
      · go_wp2_with (go_at_call 41; refine hc.mono ?_; rintro e w2 ⟨rfl, hB2⟩; have HB2 := Lib.hid (HB.out.trans (hB2.mono HB.out.size)); clear hB2)
        go_roundg (h - i)
        case measure => omega
        case rel => exact ⟨i, h, rfl, rfl, by omega, by omega, Nat.le_refl _, H1, Lib.hid (fun q hq h1 => HU.out q hq h1 (fun h2 => by have := HN.out.2 h2; omega)), HB2⟩
    · obtain rfl : i = j := by omega
      have hltI : ¬ (i : Int) < i := by omega
      by_cases hil : i < l.length
      · have hilI : (i : Int) < l.length := by omega
        obtain ⟨ad, rfl, hb, c0, c1, c2⟩ := (HC.out.below (HB.out.mono hB)).pick hil
        have hc := get_cmp l[i] k wr
        have hzero := @cmpK_zero l[i].key k
        generalize cmpK l[i].key k = r at hc hzero
        generalize hx : l[i] = x at c0 c1 c2 hc
        have HZ := Lib.hid hzero
        clear hzero hx
        by_cases hv : r = 0
        · subst hv
          go_wp2_with (go_at_call 41; refine hc.mono ?_; rintro e w2 ⟨rfl, hB2⟩; have HB2 := Lib.hid (HB.out.trans (hB2.mono HB.out.size)); clear hB2)
          go_ret2
          exact ⟨HB2.out, .inl ⟨i, hil, HZ.out.1 (by trivial), rfl⟩⟩
        · have hv2 : (r == 0) = false := by rw [beq_eq_false_iff_ne]; exact hv
          go_wp2_with (go_at_call 41; refine hc.mono ?_; rintro e w2 ⟨rfl, hB2⟩; have HB2 := Lib.hid (HB.out.trans (hB2.mono HB.out.size)); clear hB2)
          go_ret2
          exact ⟨HB2.out, .inr ⟨search_none (fun q hq h => H1.out q hq h) (fun q hq h => H2.out q hq h) (fun _ e => hv (HZ.out.2 e)) HR.out, i, rfl⟩⟩
      · have hilI : ¬ (i : Int) < l.length := by omega
        go_wp2
        go_ret2
        exact ⟨HB.out, .inr ⟨search_none (fun q hq h => H1.out q hq h) (fun q hq h => H2.out q hq h) (fun h => absurd h hil) HR.out, i, rfl⟩⟩

/-- A store's fields: its disk, its head, its records. -/
def StAt (w : World) (sb g : Nat) (h : Hd) (v : Value) : Prop := Blk w sb 70 #[.pointer (some ⟨g, 0, none⟩), .int .i64 h.age, .int .i64 (h.half : Int), .int .i64 (h.used : Int), v]
def getV (k : List UInt8) (r : List Chg) : List UInt8 := match getC k r with | some x => x.val | none => []
def getB (k : List UInt8) (r : List Chg) : Bool := (getC k r).isSome
theorem get_at {r : List Chg} {k : List UInt8} {i : Nat} (hr : Rises r) (hi : i < r.length) (hk : r[i].key = k) : getV k r = r[i].val ∧ getB k r = true := by
  have := getC_mem hr (List.getElem_mem hi)
  rw [hk] at this
  exact ⟨by simp [getV, this], by simp [getB, this]⟩
/-- What Get leaves. -/
def RetGet (k : List UInt8) (r : List Chg) (w : World) (e : Ending) (w' : World) : Prop := e = .returned (.tuple #[.string ⟨(getV k r).toArray⟩, .bool (getB k r)]) ∧ Below w.heap.size w w'
set_option maxRecDepth 100000 in
set_option maxHeartbeats 1000000 in
theorem get_any (sb g : Nat) (h : Hd) (A : Option Addr) (c B : Nat) (r : List Chg) (k : List UInt8) (w : World) (hS : StAt w sb g h (.slice A r.length c)) (hC : Chs w B A r) (hB : B ≤ w.heap.size) (hr : Rises r) (hl : r.length ≤ 1099511627776) :
    Calls Tryz.prog 20 #[.pointer (some ⟨sb, 0, none⟩), .string ⟨k.toArray⟩] w (RetGet k r w) := by
  have hs := search_any A c B r k w hC hB hr hl
  have s4 : w.cell? ⟨sb, 4, none⟩ = some (.slice A r.length c) := Blk.cell hS 4
  have hsl := Blk.lt hS
  have HC := Lib.hid hC
  have HR := Lib.hid hr
  clear hS hC hr
  go_enter Tryz.func20, Tryz.ntmps20
  go_wp2_with fail
  refine hs.mono ?_
  rintro e w2 ⟨hB2, ⟨i, hi, hk, rfl⟩ | ⟨hn, i, rfl⟩⟩
  · have s4' := (hB2.cell (p := ⟨sb, 4, none⟩) hsl).trans s4
    obtain ⟨ad, rfl, hb, c0, c1, c2⟩ := (HC.out.below (hB2.mono hB)).pick hi
    obtain ⟨g1, g2⟩ := get_at HR.out hi hk
    have hiI : (i : Int) < r.length := by omega
    have HB2 := Lib.hid hB2
    generalize r[i] = x at c0 c1 c2 g1
    have HG := Lib.hid (And.intro g1 g2)
    clear hB2 s4 hs hk g1 g2
    go_wp2
    go_ret2
    exact ⟨by rw [HG.out.1, HG.out.2]; rfl, HB2.out⟩
  · have HB2 := Lib.hid hB2
    have HG : Hid (getV k r = [] ∧ getB k r = false) := Lib.hid ⟨by simp [getV, hn], by simp [getB, hn]⟩
    clear hB2 s4 hs hn
    go_wp2
    go_ret2
    exact ⟨by rw [HG.out.1, HG.out.2]; rfl, HB2.out⟩

/-- A store in memory: its block, its records as a slice that is read. -/
structure StR (w : World) (B sb g : Nat) (h : Hd) (v : Value) (r : List Chg) : Prop where
  at_ : StAt w sb g h v
  lt : sb < B
  chs : ∃ A c, v = .slice A r.length c ∧ Chs w B A r ∧ (A = none → c = 0) ∧ r.length ≤ c ∧ c ≤ maxLen
  rises : Rises r
  few : r.length ≤ 256
theorem StR.below {w w' : World} {B sb g : Nat} {h : Hd} {v : Value} {r : List Chg} (H : StR w B sb g h v r) (hb : Below B w w') : StR w' B sb g h v r := by
  obtain ⟨A, c, e, hc, hz⟩ := H.chs
  exact ⟨Blk.below H.at_ hb H.lt, H.lt, ⟨A, c, e, hc.below hb, hz⟩, H.rises, H.few⟩
theorem idle_gone {r : List Chg} {c : Chg} (h : c.gone = true) : idle r c = !getB c.key r := by
  unfold idle getB
  cases getC c.key r <;> simp [h]
theorem idle_set {r : List Chg} {c : Chg} (h : c.gone = false) : idle r c = (getB c.key r && (getV c.key r == c.val)) := by
  unfold idle getB getV
  cases getC c.key r with
  | none => simp [h]
  | some x =>
    rw [Bool.eq_iff_iff]
    simp [h]
set_option maxRecDepth 100000 in
set_option maxHeartbeats 1000000 in
theorem idle_call (bx sb g : Nat) (h : Hd) (v : Value) (r : List Chg) (B : Nat) (c : Chg) (w : World) (hS : StR w B sb g h v r) (hB : B ≤ w.heap.size) (hb : w.cell? ⟨bx, 0, none⟩ = some (.pointer (some ⟨sb, 0, none⟩))) :
    Calls Tryz.prog 45 #[.agg #[.string ⟨c.key.toArray⟩, .string ⟨c.val.toArray⟩, .bool c.gone], .pointer (some ⟨bx, 0, none⟩)] w fun e w' => e = .returned (.bool (idle r c)) ∧ Below w.heap.size w w' := by
  have h3B : Below w.heap.size w (w.alloc (.cells #[.string ⟨c.key.toArray⟩, .string ⟨c.val.toArray⟩, .bool c.gone] 55)) := (Below.refl _ w).alloc (Nat.le_refl _) _
  have h3b : Blk (w.alloc (.cells #[.string ⟨c.key.toArray⟩, .string ⟨c.val.toArray⟩, .bool c.gone] 55)) w.heap.size 55 #[.string ⟨c.key.toArray⟩, .string ⟨c.val.toArray⟩, .bool c.gone] := heap_alloc_new w _
  have hbl := World.block_lt_of_cell? w _ hb
  have hb3 := (h3B.cell (p := ⟨bx, 0, none⟩) hbl).trans hb
  have hS3 := hS.below (h3B.mono hB)
  obtain ⟨A, cp, rfl, hch, _⟩ := hS3.chs
  have hg := get_any sb g h A cp B r c.key _ hS3.at_ hch (Nat.le_trans hB h3B.size) hS3.rises (by have := hS3.few; omega)
  have HB3 := Lib.hid h3B
  have b1 := h3b.cell 1
  have b2 := h3b.cell 2
  have hi0 := @idle_gone r c
  have hi1 := @idle_set r c
  have hWl := h3b.lt
  unfold RetGet at hg
  generalize getV c.key r = V at *
  generalize getB c.key r = G at *
  generalize idle r c = res at *
  have HI0 := Lib.hid hi0
  have HI1 := Lib.hid hi1
  have HG := Lib.hid hg
  have Hb1 := Lib.hid b1
  have Hb2 := Lib.hid b2
  clear hS hS3 hch h3B h3b hb3 hi0 hi1 hg b1 b2
  go_enter Tryz.func45, Tryz.ntmps45
  go_wp2_with fail
  refine HG.out.mono ?_
  rintro e w2 ⟨rfl, hB2⟩
  have d1 := (hB2.cell (p := ⟨w.heap.size, 1, none⟩) hWl).trans Hb1.out
  have d2 := (hB2.cell (p := ⟨w.heap.size, 2, none⟩) hWl).trans Hb2.out
  have HB2 := Lib.hid (HB3.out.trans (hB2.mono HB3.out.size))
  clear hB2 HG Hb1 Hb2 hWl hb
  have d1 : w2.cell? ⟨w.heap.size, 1, none⟩ = some (.string ⟨c.val.toArray⟩) := d1
  have d2 : w2.cell? ⟨w.heap.size, 2, none⟩ = some (.bool c.gone) := d2
  cases hg : c.gone
  · rw [hg] at d2
    cases G
    · go_wp2
      go_ret
      exact ⟨by rw [HI1.out hg]; rfl, HB2.out⟩
    · go_wp2
      go_ret
      exact ⟨by rw [HI1.out hg]; simp, HB2.out⟩
  · rw [hg] at d2
    go_wp2
    go_ret
    exact ⟨by rw [HI0.out hg]; rfl, HB2.out⟩

set_option maxRecDepth 100000 in
set_option maxHeartbeats 1000000 in
theorem effective_any (sb g : Nat) (h : Hd) (v : Value) (r l : List Chg) (A : Option Addr) (c : Nat) (w : World) (hS : StR w w.heap.size sb g h v r) (hC : Chs w w.heap.size A l) (hz : A = none → c = 0) (hl : l.length ≤ 4294967296) :
    Calls Tryz.prog 25 #[.pointer (some ⟨sb, 0, none⟩), .slice A l.length c] w (RetCs (eff r l) w) := by
  have h1B : Below w.heap.size w (w.alloc (.cells #[.pointer (some ⟨sb, 0, none⟩)] 26)) := (Below.refl _ w).alloc (Nat.le_refl _) _
  have h2B : Below w.heap.size w ((w.alloc (.cells #[.pointer (some ⟨sb, 0, none⟩)] 26)).alloc (.cells #[.slice A l.length c] 35)) := h1B.alloc (by simp) _
  have hz2 : ((w.alloc (.cells #[.pointer (some ⟨sb, 0, none⟩)] 26)).alloc (.cells #[.slice A l.length c] 35)).heap.size = w.heap.size + 1 + 1 := by simp
  have hbx : ((w.alloc (.cells #[.pointer (some ⟨sb, 0, none⟩)] 26)).alloc (.cells #[.slice A l.length c] 35)).cell? ⟨w.heap.size, 0, none⟩ = some (.pointer (some ⟨sb, 0, none⟩)) := by simp
  have hL : Lists ((w.alloc (.cells #[.pointer (some ⟨sb, 0, none⟩)] 26)).alloc (.cells #[.slice A l.length c] 35)) ((w.alloc (.cells #[.pointer (some ⟨sb, 0, none⟩)] 26)).alloc (.cells #[.slice A l.length c] 35)).heap.size (some ⟨w.heap.size + 1, 0, none⟩) [⟨A, c, l⟩] := by
    refine ⟨fun i s hs => ⟨_, rfl, by rw [hz2]; show w.heap.size + 1 < _; omega, ?_⟩, fun s hs => ?_⟩
    · match i, hs with
      | 0, hs =>
        simp at hs
        subst hs
        simp [SlV.v, Addr.add]
    · obtain rfl : s = ⟨A, c, l⟩ := by simpa using hs
      exact ⟨(hC.below h2B).more (by rw [hz2]; omega), hz⟩
  have hc := settled_any (some ⟨w.heap.size + 1, 0, none⟩) 1 1 [⟨A, c, l⟩] _ rfl hL (by simpa [flat] using hl) (by omega)
  have hfl : flat [⟨A, c, l⟩] = l := by simp [flat]
  rw [hfl, hz2] at hc
  have HC := Lib.hid hc
  have HS := Lib.hid hS
  have HB := Lib.hid h2B
  have HX := Lib.hid hbx
  have HZ := Lib.hid hz2
  clear hS hC hz h1B h2B hz2 hbx hL hc hfl
  go_enter Tryz.func25, Tryz.ntmps25
  go_wp2_with fail
  refine HC.out.mono ?_
  rintro e w2 ⟨v2, rfl, hO2, hB2⟩
  have hB02 : Below w.heap.size w w2 := HB.out.trans (hB2.mono (by omega))
  have hx2 := (hB2.cell (p := ⟨w.heap.size, 0, none⟩) (by show w.heap.size < _; omega)).trans HX.out
  have hdl : Dels 45 #[.pointer (some ⟨w.heap.size, 0, none⟩)] (idle r) (w.heap.size + 1) w2 := fun W hW x => by
    have hxl := World.block_lt_of_cell? w2 _ hx2
    exact idle_call w.heap.size sb g h v r w.heap.size x W (HS.out.below (hB02.trans (hW.mono (by omega)))) (Nat.le_trans hB02.size hW.size) ((hW.cell (p := ⟨w.heap.size, 0, none⟩) (by show w.heap.size < _; omega)).trans hx2)
  have hd := delete_own 45 #[.pointer (some ⟨w.heap.size, 0, none⟩)] (idle r) (w.heap.size + 1) v2 (setl l) w2 (enters_of Tryz.func45 (by kernel_rfl) rfl) hdl (hO2.mono (by omega)) (by have := setl_length l; omega)
  have HB02 := Lib.hid hB02
  have HD := Lib.hid hd
  clear hO2 hB2 hB02 hx2 hdl hd HC HX
  go_wp2_with fail
  refine HD.out.mono ?_
  rintro e w3 ⟨v3, rfl, hO3, hB3⟩
  go_wp2
  go_ret
  exact ⟨_, rfl, hO3.mono (by omega), HB02.out.trans (hB3.mono (by omega))⟩
end Go.Proofs.YtmpklljiddggpaaGreatDoor
