/-
  Words for memory: a slice of changes that reads as a list, a row of changes that the call itself owns. Conditions: none.
-/
import Derived.Test.YtmpklljiddggpaaGreatDoorQJsU
import Derived.Test.YtmpklljiddggpaaGreatDoorQJoB
import Derived.Maps.AppendAt
import Derived.Lib.AppendZeros
namespace Go.Proofs.YtmpklljiddggpaaGreatDoor
open Go.Shelf Go.RowKit Go.Lib Go.Sort

/-- The cells of changes, in a row. -/
def cellsL : List Chg → List Value
  | [] => []
  | c :: r => .string ⟨c.key.toArray⟩ :: .string ⟨c.val.toArray⟩ :: .bool c.gone :: cellsL r
theorem cellsL_length : ∀ l : List Chg, (cellsL l).length = l.length * 3
  | [] => rfl
  | c :: r => by simp [cellsL, cellsL_length r]; omega
theorem cellsL_append : ∀ a b : List Chg, cellsL (a ++ b) = cellsL a ++ cellsL b
  | [], b => rfl
  | c :: r, b => by simp [cellsL, cellsL_append r b]
theorem cellsL_get : ∀ (l : List Chg) (i : Nat) (c : Chg), l[i]? = some c → (cellsL l)[i * 3]? = some (.string ⟨c.key.toArray⟩) ∧ (cellsL l)[i * 3 + 1]? = some (.string ⟨c.val.toArray⟩) ∧ (cellsL l)[i * 3 + 2]? = some (.bool c.gone)
  | y :: r, 0, x, h => by simp at h; subst h; exact ⟨rfl, rfl, rfl⟩
  | y :: r, i + 1, x, h => by
    have h' := cellsL_get r i x (by simpa using h)
    have e1 : (i + 1) * 3 = i * 3 + 1 + 1 + 1 := by omega
    rw [e1]
    exact ⟨by simpa [cellsL] using h'.1, by simpa [cellsL] using h'.2.1, by simpa [cellsL] using h'.2.2⟩
theorem cellsL_at : ∀ (l : List Chg) (t : Nat), (cellsL l)[t]? = (l[t / 3]?).bind fun c => (encC c)[t % 3]?
  | [], t => by simp [cellsL]
  | c :: r, 0 => rfl
  | c :: r, 1 => rfl
  | c :: r, 2 => rfl
  | c :: r, t + 3 => by
    have := cellsL_at r t
    rw [show (t + 3) / 3 = t / 3 + 1 by omega, show (t + 3) % 3 = t % 3 by omega]
    simpa [cellsL] using this
theorem cellsL_one (l : List Chg) : ∀ u ∈ cellsL l, u.oneCell' = true := by
  induction l with
  | nil => intro u h; cases h
  | cons c r ih =>
    intro u h
    simp only [cellsL, List.mem_cons] at h
    rcases h with rfl | rfl | rfl | h
    · rfl
    · rfl
    · rfl
    · exact ih u h

/-- The slice at A holds these changes, in a block below B. -/
structure Chs (w : World) (B : Nat) (A : Option Addr) (l : List Chg) : Prop where
  here : l ≠ [] → ∃ ad, A = some ad ∧ ad.block < B ∧ ∀ j u, (cellsL l)[j]? = some u → w.cell? (ad.add j) = some u
section
variable {w w' : World} {B B' : Nat} {A : Option Addr} {l : List Chg} {S : List Nat}
theorem Chs.nil : Chs w B A [] := ⟨fun h => absurd rfl h⟩
theorem add_one' (a : Addr) (i : Nat) (j : Nat) : (⟨(a.add i).block, (a.add i).off + (j + 1), none⟩ : Addr) = a.add (i + (j + 1)) := by
  unfold Addr.add
  by_cases h : i = 0 <;> simp [h, Nat.add_assoc]
/-- A change's three cells, as a load asks for them. -/
theorem Chs.pick (h : Chs w B A l) {k : Nat} (hk : k < l.length) : ∃ ad, A = some ad ∧ ad.block < B ∧ w.cell? (ad.add (k * 3)) = some (.string ⟨l[k].key.toArray⟩) ∧
    w.cell? ⟨(ad.add (k * 3)).block, (ad.add (k * 3)).off + 1, none⟩ = some (.string ⟨l[k].val.toArray⟩) ∧ w.cell? ⟨(ad.add (k * 3)).block, (ad.add (k * 3)).off + 2, none⟩ = some (.bool l[k].gone) := by
  obtain ⟨ad, e, hb, hc⟩ := h.here (by intro h; subst h; simp at hk)
  obtain ⟨g1, g2, g3⟩ := cellsL_get l k l[k] (List.getElem?_eq_getElem hk)
  refine ⟨ad, e, hb, hc _ _ g1, ?_, ?_⟩
  · rw [show (ad.add (k * 3)).off + 1 = (ad.add (k * 3)).off + (0 + 1) from rfl, add_one']
    exact hc _ _ g2
  · rw [show (ad.add (k * 3)).off + 2 = (ad.add (k * 3)).off + (1 + 1) from rfl, add_one']
    exact hc _ _ g3
theorem Chs.keep (h : Chs w B A l) (hk : ∀ p : Addr, p.block < B → w'.cell? p = w.cell? p) : Chs w' B A l :=
  ⟨fun hn => by
    obtain ⟨ad, e, hb, hc⟩ := h.here hn
    exact ⟨ad, e, hb, fun j u hu => (hk _ (by rw [add_block]; exact hb)).trans (hc j u hu)⟩⟩
theorem Chs.more (h : Chs w B A l) (hB : B ≤ B') : Chs w B' A l :=
  ⟨fun hn => by
    obtain ⟨ad, e, hb, hc⟩ := h.here hn
    exact ⟨ad, e, by omega, hc⟩⟩
theorem Chs.below (h : Chs w B A l) (hb : Below B w w') : Chs w' B A l := h.keep fun _ hp => hb.cell hp
theorem Chs.fr (h : Chs w B A l) (f : Fr S w w') (hB : B ≤ w.heap.size) (hS : ∀ ad, A = some ad → ad.block < B → ad.block ∉ S) : Chs w' B A l :=
  ⟨fun hn => by
    obtain ⟨ad, rfl, hb, hc⟩ := h.here hn
    exact ⟨ad, rfl, hb, fun j u hu => (World.cell?_of_block (a := ad.add j) (f.block _ (by rw [add_block]; omega) (by rw [add_block]; exact hS ad rfl hb))).trans (hc j u hu)⟩⟩
end

/-- The call's own row of changes. -/
def OwnC (w : World) (base : Nat) (v : Value) (l : List Chg) : Prop := w.ownsRow base 55 3 v l.length (cellsL l)
section
variable {w w' : World} {base : Nat} {v : Value} {l : List Chg}
theorem OwnC.form (h : OwnC w base v l) : (v = .slice none 0 0 ∧ l = []) ∨ ∃ g cap cs, v = .slice (some ⟨g, 0, none⟩) l.length cap ∧ base ≤ g ∧ Blk w g 55 cs ∧ l.length ≤ cap ∧ cap ≤ maxLen ∧ cs.size = cap * 3 ∧ cs.toList.take (l.length * 3) = cellsL l := by
  rcases h.2 with ⟨hv, hn⟩ | ⟨g, cap, cur, hv, hb, hg, h1, h2, h3, h4⟩
  · exact .inl ⟨hv, List.eq_nil_of_length_eq_zero hn⟩
  · exact .inr ⟨g, cap, cur, hv, hb, hg, h1, h2, h3, h4⟩
theorem OwnC.nil (w : World) (base : Nat) : OwnC w base (.slice none 0 0) [] := ⟨rfl, .inl ⟨rfl, rfl⟩⟩
theorem OwnC.of {g cap : Nat} {cs : Array Value} (hb : base ≤ g) (hg : Blk w g 55 cs) (h1 : l.length ≤ cap) (h2 : cap ≤ maxLen) (h3 : cs.size = cap * 3) (h4 : cs.toList.take (l.length * 3) = cellsL l) : OwnC w base (.slice (some ⟨g, 0, none⟩) l.length cap) l :=
  ⟨cellsL_length l, .inr ⟨g, cap, cs, rfl, hb, hg, h1, h2, h3, h4⟩⟩
/-- As a slice that is read. -/
theorem OwnC.chs (h : OwnC w base v l) : ∃ A c, v = .slice A l.length c ∧ Chs w w.heap.size A l ∧ (A = none → c = 0) ∧ l.length ≤ c ∧ c ≤ maxLen ∧ (∀ ad, A = some ad → base ≤ ad.block ∧ ad.block < w.heap.size) := by
  rcases h.form with ⟨rfl, rfl⟩ | ⟨g, cap, cs, rfl, hb, hg, h1, h2, h3, h4⟩
  · exact ⟨none, 0, rfl, Chs.nil, fun _ => rfl, Nat.le_refl _, by simp [maxLen], fun ad e => by cases e⟩
  · refine ⟨_, cap, rfl, ⟨fun _ => ⟨_, rfl, hg.lt, fun j u hu => ?_⟩⟩, (fun e => by cases e), h1, h2, fun ad e => by cases e; exact ⟨hb, hg.lt⟩⟩
    rw [lit_add, hg.cell]
    rw [← h4, List.getElem?_take] at hu
    split at hu
    · simpa using hu
    · cases hu
theorem OwnC.keep (h : OwnC w base v l) (hk : ∀ g, v.ownBlock = some g → w'.heap[g]? = w.heap[g]?) : OwnC w' base v l := by
  rcases h.form with ⟨rfl, rfl⟩ | ⟨g, cap, cs, rfl, hb, hg, h1, h2, h3, h4⟩
  · exact OwnC.nil _ _
  · exact OwnC.of hb ((hk g rfl).trans hg) h1 h2 h3 h4
theorem OwnC.block (h : OwnC w base v l) : ∀ k, v.ownBlock = some k → base ≤ k ∧ k < w.heap.size := by
  intro k hk
  rcases h.form with ⟨rfl, rfl⟩ | ⟨g, cap, cs, rfl, hb, hg, _⟩
  · cases hk
  · cases hk
    exact ⟨hb, hg.lt⟩
theorem OwnC.below {B : Nat} (h : OwnC w base v l) (hb : Below B w w') (hB : w.heap.size ≤ B) : OwnC w' base v l := h.keep fun g hg => hb.block g (by have := (h.block g hg).2; omega)
theorem OwnC.mono {b' : Nat} (h : OwnC w base v l) (hb : b' ≤ base) : OwnC w b' v l := by
  rcases h.form with ⟨rfl, rfl⟩ | ⟨g, cap, cs, rfl, hg0, hg, h1, h2, h3, h4⟩
  · exact OwnC.nil _ _
  · exact OwnC.of (by omega) hg h1 h2 h3 h4
theorem OwnC.fr {S : List Nat} (h : OwnC w base v l) (f : Fr S w w') (hS : ∀ k, v.ownBlock = some k → k ∉ S) : OwnC w' base v l := h.keep fun g hg => f.block g (h.block g hg).2 (hS g hg)
end

theorem infoJ : (Tryz.prog.info? 55).map (fun i => (i.zero, i.size, i.bytes)) = some (some (.agg #[.string ⟨#[]⟩, .string ⟨#[]⟩, .bool false]), 3, 40) := by kernel_rfl

/-- append(own, changes...): nil or not. -/
theorem append_chs {w : World} {base : Nat} {v : Value} {l l2 : List Chg} {A : Option Addr} {n c B : Nat} (h : OwnC w base v l) (hc : Chs w B A l2) (hn : n = l2.length) (hz : A = none → c = 0) (hle : l.length + l2.length ≤ 1099511627776) (hb : base ≤ w.heap.size) :
    ∃ v' w', (∀ ty, (Builtin.append_ #[35, 35] ty #[v, .slice A n c]).run Tryz.prog w = .ok v' w') ∧ OwnC w' base v' (l ++ l2) ∧ w.grownBy w' v.ownBlock := by
  obtain ⟨i0, hi, hz0, hz1, hz2⟩ := info_parts infoJ
  subst hn
  rcases A with _ | ad
  · have hl0 : l2 = [] := by
      rcases l2 with _ | ⟨u, l2⟩
      · rfl
      · obtain ⟨ad, h, _⟩ := hc.here (by simp)
        cases h
    subst hl0
    rw [hz rfl]
    refine ⟨v, w, fun ty => ?_, by simpa using h, World.grownBy.refl w _⟩
    rcases h.form with ⟨rfl, rfl⟩ | ⟨g, cap, cs, rfl, _, _, h1, _⟩
    · simp [Builtin.append_, run_underlying Tryz.underlying35, sizeOf, typeInfo, hi, Builtin.lenOf, Builtin.firstCells]
    · simp [Builtin.append_, run_underlying Tryz.underlying35, sizeOf, typeInfo, hi, Builtin.lenOf, Builtin.firstCells, h1, storeCells]
  · have go := run_append_own_at (P := Tryz.prog) w base 35 0 55 i0 _ 3 40 Tryz.underlying35 hi hz0 hz1 hz2 rfl (by omega) v l.length (cellsL l) h ad l2.length c (cellsL l2) (cellsL_length l2)
      (fun j u hu => by
        obtain ⟨ad', e, _, hc⟩ := hc.here (by rintro rfl; simp [cellsL] at hu)
        cases e
        exact hc j u hu) (cellsL_one l2) (by simp [maxLen]; omega) (by omega) hb
    obtain ⟨v', w', hrun, ho, hg, _, _⟩ := go
    refine ⟨v', w', fun ty => hrun, ?_, hg⟩
    unfold OwnC
    rw [List.length_append, cellsL_append]
    exact ho

/-- A row of our own, as the sort wants it. -/
theorem own_rowK {w : World} {base g cap : Nat} {l : List Chg} {n : Nat} (h : OwnC w base (.slice (some ⟨g, 0, none⟩) n cap) l) : RowK encE 3 w g 0 (els l) := by
  rcases h.form with ⟨hv, _⟩ | ⟨g', cap', cs, hv, hb, hg, h1, h2, h3, h4⟩
  · cases hv
  · cases hv
    refine ⟨encE_len, encE_one, fun j hj => ?_, hg.lt⟩
    rw [size_flatK, els_size] at hj
    refine ⟨?_, hg.free _⟩
    rw [Nat.zero_add, hg.cell, get_flatK _ _ _ _ (by rw [els_size]; exact hj), els_at l (j / 3) (by omega)]
    have := cellsL_at l j
    rw [← h4, List.getElem?_take, if_pos (by omega), List.getElem?_eq_getElem (by omega : j / 3 < l.length)] at this
    rw [Array.getElem?_toList] at this
    rw [this]
    show (encC l[j / 3])[j % 3]? = _
    have h5 : j % 3 < (encC l[j / 3]).length := by show j % 3 < 3; omega
    rw [List.getElem?_eq_getElem h5]
    show _ = some ((encC l[j / 3])[j % 3]!)
    rw [getElem!_pos (encC l[j / 3]) (j % 3) h5]
theorem own_sorted {w w' : World} {base g cap n : Nat} {l : List Chg} {d : Array El} (h : OwnC w base (.slice (some ⟨g, 0, none⟩) n cap) l) (hd : d.size = l.length) (S : SWK encE 3 w g 0 d w') :
    OwnC w' base (.slice (some ⟨g, 0, none⟩) n cap) (d.toList.map (·.1)) ∧ Fr [g] w w' := by
  obtain ⟨q, os, rfl⟩ := S
  rcases h.form with ⟨hv, _⟩ | ⟨g', cap', cs, hv, hb, hg, h1, h2, h3, h4⟩
  · cases hv
  · cases hv
    have hgl := hg.lt
    have hhp : (sortWorldK encE 3 w g 0 q d os).heap = (w.heap.modify g (onCells (putCells id 0 (flatK encE 3 d)))) ++ os := rfl
    have hat : ∀ k, k < w.heap.size → (sortWorldK encE 3 w g 0 q d os).heap[k]? = if g = k then (w.heap[k]?).map (onCells (putCells id 0 (flatK encE 3 d))) else w.heap[k]? := fun k hk => by
      rw [hhp, Array.getElem?_append_left (by simpa using hk), Array.getElem?_modify]
    have hB : Blk (sortWorldK encE 3 w g 0 q d os) g 55 (putCells id 0 (flatK encE 3 d) cs) := by
      unfold Blk
      rw [hat g hgl, if_pos rfl, hg]
      rfl
    refine ⟨?_, ⟨rfl, rfl, rfl, by rw [hhp]; simp, fun k hk hn => by rw [hat k hk, if_neg (fun e => hn (by simp [e]))]⟩⟩
    have hl : (d.toList.map (·.1)).length = l.length := by simpa using hd
    have := OwnC.of (l := d.toList.map (·.1)) (cap := cap) hb hB (by omega) h2 (by simp [putCells, h3]) ?_
    · rw [hl] at this
      exact this
    · rw [hl]
      refine List.ext_getElem? fun j => ?_
      rw [cellsL_at, List.getElem?_take]
      split
      · rename_i hj
        have hj3 : j / 3 < l.length := by omega
        have h5 : j < d.size * 3 := by omega
        rw [Array.getElem?_toList]
        simp only [putCells, Array.getElem?_mapIdx]
        rw [Array.getElem?_eq_getElem (by omega), Option.map_some, if_pos (by simp [size_flatK]; omega), Nat.sub_zero, id, get_flatK _ _ _ _ h5, List.getElem?_map]
        rw [show d.toList[j / 3]? = some d[j / 3]! by rw [Array.getElem?_toList, Array.getElem?_eq_getElem (by omega), getElem!_pos]]
        have h6 : j % 3 < (encC d[j / 3]!.1).length := by show j % 3 < 3; omega
        show some ((encC d[j / 3]!.1)[j % 3]!) = (encC d[j / 3]!.1)[j % 3]?
        rw [List.getElem?_eq_getElem h6, getElem!_pos (encC d[j / 3]!.1) (j % 3) h6]
      · rename_i hj
        rw [List.getElem?_eq_none (by rw [hl]; omega)]
        rfl
end Go.Proofs.YtmpklljiddggpaaGreatDoor

/-
  The walks of the library's Grow and Concat at changes. Conditions: each theorem's own premises.
-/
namespace Go.Proofs.YtmpklljiddggpaaGreatDoor
open Go.Shelf Go.RowKit Go.Lib Go.Sort

set_option maxRecDepth 100000 in
set_option maxHeartbeats 1000000 in
theorem grow_nil (n : Nat) (w : World) (hn : n ≤ 1099511627776) : Calls Tryz.prog 91 #[.slice none 0 0, .int .i64 (n : Int)] w fun e w' => ∃ v, e = .returned v ∧ OwnC w' w.heap.size v [] ∧ Below w.heap.size w w' := by
  have h1 : ¬ ((n : Int) < 0) := by omega
  by_cases h0 : n = 0
  · subst h0
    go_enter Tryz.func91, Tryz.ntmps91
    go_wp2
    go_ret
    exact ⟨_, rfl, OwnC.nil _ _, Below.refl _ _⟩
  · have h2 : (0 : Int) < n := by omega
    obtain ⟨i0, hi, hz0, hz1, hz2⟩ := info_parts infoJ
    have hrun := fun ty => run_append_nil_zeros (P := Tryz.prog) w 35 3 ty 55 i0 _ .i64 .i64 Tryz.underlying35 Tryz.underlying3 hi hz0 n (by omega) (by omega) (by omega) (by rw [hz2]; omega)
    have hge := grownCap_ge w n 0 55
    have hle := grownCap_le_maxLen w n 0 55 (by unfold maxLen; omega)
    obtain ⟨cs, hcs⟩ : ∃ cs, cs = Builtin.zeroCells (Value.agg #[.string ⟨#[]⟩, .string ⟨#[]⟩, .bool false]).cells n ++ Builtin.zeroCells (Value.agg #[.string ⟨#[]⟩, .string ⟨#[]⟩, .bool false]).cells (grownCap w n 0 55 - n) := ⟨_, rfl⟩
    rw [← hcs] at hrun
    generalize hG : grownCap w n 0 55 = G at *
    have hsz : cs.size = G * 3 := by
      rw [hcs, Array.size_append, size_zeroCells, size_zeroCells]
      show n * 3 + (G - n) * 3 = G * 3
      omega
    have HS := Lib.hid hsz
    have HL := Lib.hid hle
    have hG63 : G ≤ 9223372036854775807 := by unfold maxLen at hle; omega
    clear hcs hsz hle hG
    go_enter Tryz.func91, Tryz.ntmps91
    go_wp2_with (at_builtin; refine Lib.wpList_append_run _ rfl _ _ _ _ rfl _ _ rfl rfl _ _ (hrun _) ?_)
    go_ret
    refine ⟨_, rfl, OwnC.of (l := []) (cs := cs) (Nat.le_refl _) ?_ (Nat.zero_le _) HL.out HS.out rfl, (((Below.refl _ w).drew).alloc (Nat.le_refl _) _)⟩
    exact heap_alloc_new w.drew _

/-- A slice of changes, as a value. -/
structure SlV where
  A : Option Addr
  c : Nat
  l : List Chg
def SlV.v (s : SlV) : Value := .slice s.A s.l.length s.c
/-- The slice at A holds these slices of changes. -/
structure Lists (w : World) (B : Nat) (A : Option Addr) (ls : List SlV) : Prop where
  here : ∀ i s, ls[i]? = some s → ∃ ad, A = some ad ∧ ad.block < B ∧ w.cell? (ad.add i) = some s.v
  chs : ∀ s ∈ ls, Chs w B s.A s.l ∧ (s.A = none → s.c = 0)
theorem Lists.below {w w' : World} {B : Nat} {A : Option Addr} {ls : List SlV} (h : Lists w B A ls) (hb : Below B w w') : Lists w' B A ls :=
  ⟨fun i s hs => by
    obtain ⟨ad, e, hl, hc⟩ := h.here i s hs
    exact ⟨ad, e, hl, (hb.cell (by rw [add_block]; exact hl)).trans hc⟩, fun s hs => ⟨(h.chs s hs).1.below hb, (h.chs s hs).2⟩⟩
/-- All of them, one behind the other. -/
def flat : List SlV → List Chg
  | [] => []
  | s :: r => s.l ++ flat r
theorem flat_append (a b : List SlV) : flat (a ++ b) = flat a ++ flat b := by
  induction a with
  | nil => rfl
  | cons s r ih => simp [flat, ih]
theorem flat_take_succ {ls : List SlV} {k : Nat} (h : k < ls.length) : flat (ls.take (k + 1)) = flat (ls.take k) ++ ls[k].l := by
  rw [List.take_succ_eq_append_getElem h, flat_append]
  simp [flat]
theorem flat_take_le (ls : List SlV) (k : Nat) : (flat (ls.take k)).length ≤ (flat ls).length := by
  have : flat ls = flat (ls.take k) ++ flat (ls.drop k) := by rw [← flat_append, List.take_append_drop]
  rw [this]
  simp

set_option maxRecDepth 100000 in
set_option maxHeartbeats 1000000 in
theorem concat_any (A : Option Addr) (m c : Nat) (ls : List SlV) (w : World) (hm : m = ls.length) (hL : Lists w w.heap.size A ls) (hs : (flat ls).length ≤ 1099511627776) (hml : m ≤ 1099511627776) :
    Calls Tryz.prog 70 #[.slice A m c] w fun e w' => ∃ v, e = .returned v ∧ OwnC w' w.heap.size v (flat ls) ∧ Below w.heap.size w w' := by
  have HM := Lib.hid hm
  have HL := Lib.hid hL
  have HS := Lib.hid hs
  clear hm hL hs
  go_enter Tryz.func70, Tryz.ntmps70
  go_wp2
  go_loopg [3, 5, 11] m (fun kx s3 s5 s11 wr => ∃ (k : Nat) (z : Nat), s3 = .int .i64 z ∧ s11 = .int .i64 k ∧ k ≤ m ∧ m - k ≤ kx ∧ Hid (z = (flat (ls.take k)).length) ∧ w = wr)
  case atStart => exact ⟨0, 0, rfl, rfl, by omega, by omega, Lib.hid rfl, rfl⟩
  case round =>
    obtain ⟨k, z, rfl, rfl, hkm, hkx, HZ, rfl⟩ := hrel
    have hz : z ≤ 1099511627776 := by have := HZ.out; have := flat_take_le ls k; have := HS.out; omega
    by_cases hlt : k < m
    · have hltI : (k : Int) < m := by omega
      have hkl : k < ls.length := by have := HM.out; omega
      obtain ⟨ad, rfl, hb, hc⟩ := HL.out.here k ls[k] (List.getElem?_eq_getElem hkl)
      have hn := flat_take_succ hkl
      have hz2 : z + ls[k].l.length ≤ 1099511627776 := by have := HZ.out; have h3 := flat_take_le ls (k + 1); have := HS.out; rw [hn] at h3; simp at h3; omega
      have HZ2 : Hid (z + ls[k].l.length = (flat (ls.take (k + 1))).length) := Lib.hid (by rw [hn, List.length_append, ← HZ.out])
      unfold SlV.v at hc
      generalize ls[k].l.length = q at *
      clear hn HZ
      go_wp2
      go_roundg (m - (k + 1))
      case measure => omega
      case rel => exact ⟨k + 1, z + q, by go_num, by go_num, by omega, Nat.le_refl _, HZ2, rfl⟩
    · have hltI : ¬ (k : Int) < m := by omega
      go_wp2_with fail
      refine (grow_nil z w hz).mono ?_
      rintro e w1 ⟨v1, rfl, hO1, hB1⟩
      have HO1 := Lib.hid hO1
      have HB1 := Lib.hid hB1
      clear hO1 hB1 HZ hkm hkx
      go_wp2
      go_loopg [6, 8, 27] m (fun kx s6 s8 s27 wr => ∃ (k : Nat), s27 = .int .i64 k ∧ k ≤ m ∧ m - k ≤ kx ∧ Hid (OwnC wr w.heap.size s6 (flat (ls.take k))) ∧ Hid (Below w.heap.size w wr))
      case atStart => exact ⟨0, rfl, by omega, by omega, HO1, HB1⟩
      case round =>
        clear HO1 HB1 hlt hltI
        obtain ⟨k, rfl, hkm, hkx, HO, HB⟩ := hrel
        by_cases hlt : k < m
        · have hltI : (k : Int) < m := by omega
          have hkl : k < ls.length := by have := HM.out; omega
          obtain ⟨ad, rfl, hb, hc⟩ := (HL.out.below HB.out).here k ls[k] (List.getElem?_eq_getElem hkl)
          obtain ⟨hch, hnil⟩ := (HL.out.below HB.out).chs ls[k] (List.getElem_mem hkl)
          have hn := flat_take_succ hkl
          have hle : (flat (ls.take k)).length + ls[k].l.length ≤ 1099511627776 := by have h3 := flat_take_le ls (k + 1); have := HS.out; rw [hn] at h3; simp at h3; omega
          obtain ⟨v2, w2, hrun, hO2, hg2⟩ := append_chs HO.out hch rfl hnil hle HB.out.size
          rw [← hn] at hO2
          have HO2 := Lib.hid hO2
          have HB2 := Lib.hid (HB.out.grown hg2 HB.out.size (fun j hj => (HO.out.block j hj).1))
          unfold SlV.v at hc
          generalize ls[k].l.length = q at *
          generalize ls[k].A = A2 at *
          generalize ls[k].c = c2 at *
          clear hn HO HB hch hnil hO2 hg2
          go_wp2_with (first | (at_builtin; refine Lib.wpList_append_run _ rfl _ _ _ _ rfl _ _ rfl rfl _ _ (hrun _) ?_) | go_in)
          go_roundg (m - (k + 1))
          case measure => omega
          case rel => exact ⟨k + 1, by go_num, by omega, Nat.le_refl _, HO2, HB2⟩
        · have hltI : ¬ (k : Int) < m := by omega
          go_wp2
          go_ret
          refine ⟨_, rfl, ?_, HB.out⟩
          have := HO.out
          rwa [List.take_of_length_le (by have := HM.out; omega)] at this
end Go.Proofs.YtmpklljiddggpaaGreatDoor

/-
  The walk of jour.settled. Conditions: each theorem's own premises.
-/
namespace Go.Proofs.YtmpklljiddggpaaGreatDoor
open Go.Shelf Go.RowKit Go.Lib Go.Sort

section
set_option maxRecDepth 100000
theorem ins_nil (w : World) (fv : Value) : Calls Tryz.prog 111 #[.slice none 0 0, .int .i64 0, .int .i64 0, fv] w fun e w' => e = .returned (.tuple #[]) ∧ w' = w := by
  go_enter Tryz.func111, Tryz.ntmps111
  go_wp2
  refine wp_loop_rounds 1 ?_
  rw [rounds_succ]
  go_wp2
  go_end0
  exact ⟨rfl, rfl⟩
theorem stable_nil (w : World) (fv : Value) : Calls Tryz.prog 92 #[.slice none 0 0, .int .i64 0, fv] w fun e w' => e = .returned (.tuple #[]) ∧ w' = w := by
  have hc := ins_nil w fv
  go_enter Tryz.func92, Tryz.ntmps92
  go_wp2
  refine wp_loop_rounds 1 ?_
  rw [rounds_succ]
  go_wp2_with fail
  refine hc.mono ?_
  rintro e w2 ⟨rfl, rfl⟩
  go_wp2
  refine wp_loop_rounds 1 ?_
  rw [rounds_succ]
  go_wp2
  go_end0
  exact ⟨rfl, rfl⟩
theorem sortStable_nil (w : World) (fv : Value) : Calls Tryz.prog 71 #[.slice none 0 0, fv] w fun e w' => e = .returned (.tuple #[]) ∧ w' = w := by
  have hc := stable_nil w fv
  go_enter Tryz.func71, Tryz.ntmps71
  go_wp2_with fail
  refine hc.mono ?_
  rintro e w2 ⟨rfl, rfl⟩
  go_wp2
  go_end0
  exact ⟨rfl, rfl⟩
end

/-- The sort of a row of our own, nil or not: a list whose last changes are those of the row. -/
theorem sort_own {w : World} {base : Nat} {v : Value} {l : List Chg} (h : OwnC w base v l) (hl : l.length ≤ 1099511627776) :
    Calls Tryz.prog 71 #[v, cmpV] w fun e w' => e = .returned (.tuple #[]) ∧ ∃ D : List Chg, OwnC w' base v D ∧ D.length = l.length ∧ lasts D = setl l ∧ Below base w w' := by
  rcases h.form with ⟨rfl, rfl⟩ | ⟨g, cap, cs, rfl, hb, hg, h1, h2, h3, h4⟩
  · refine (sortStable_nil w cmpV).mono ?_
    rintro e w2 ⟨rfl, rfl⟩
    exact ⟨rfl, [], OwnC.nil _ _, rfl, rfl, Below.refl _ _⟩
  · have hR := own_rowK h
    have hc := sortStable_any g 0 cap (els l) w hR (by rw [els_size]; omega) (fun i hi => by rw [els_size] at hi; rw [els_at l i hi])
    rw [els_size] at hc
    refine hc.mono ?_
    rintro e w2 ⟨rfl, d, hp, hs, S⟩
    have hd : d.size = l.length := hp.1.trans (els_size l)
    obtain ⟨hO, hF⟩ := own_sorted h hd S
    rw [← els_size l] at hs hp
    refine ⟨rfl, _, hO, by simpa using hd, setl_lasts hp hs, hF.below (Nat.le_trans hb (Nat.le_of_lt hg.lt)) (by simpa using hb)⟩

/-- One change more, out of a slice built for it. -/
theorem append_one {w : World} {base : Nat} {v : Value} {l : List Chg} (c : Chg) (h : OwnC w base v l) (hle : l.length < 1099511627776) (hb : base ≤ w.heap.size) :
    ∃ v' w', (∀ ty, (Builtin.append_ #[35, 35] ty #[v, .slice (some ⟨w.heap.size, 0, none⟩) 1 1]).run Tryz.prog (w.alloc (.cells #[.string ⟨c.key.toArray⟩, .string ⟨c.val.toArray⟩, .bool c.gone] 55)) = .ok v' w') ∧ OwnC w' base v' (l ++ [c]) ∧ Below base w w' ∧ (∀ B, B ≤ w.heap.size → (∀ k, v.ownBlock = some k → B ≤ k) → Below B w w') := by
  have hO : OwnC (w.alloc (.cells #[.string ⟨c.key.toArray⟩, .string ⟨c.val.toArray⟩, .bool c.gone] 55)) base v l := h.keep fun g hg => Below.heap_alloc w _ g (h.block g hg).2
  have hC : Chs (w.alloc (.cells #[.string ⟨c.key.toArray⟩, .string ⟨c.val.toArray⟩, .bool c.gone] 55)) (w.heap.size + 1) (some ⟨w.heap.size, 0, none⟩) [c] :=
    ⟨fun _ => ⟨_, rfl, by simp, fun j u hu => by
      rw [lit_add]
      have hB : Blk (w.alloc (.cells #[.string ⟨c.key.toArray⟩, .string ⟨c.val.toArray⟩, .bool c.gone] 55)) w.heap.size _ _ := heap_alloc_new w _
      rw [hB.cell j]
      simpa [cellsL] using hu⟩⟩
  obtain ⟨v', w', hrun, hO', hg⟩ := append_chs (n := 1) (c := 1) hO hC rfl (fun e => by cases e) (by simp; omega) (by simp; omega)
  have hB : ∀ B, B ≤ w.heap.size → (∀ k, v.ownBlock = some k → B ≤ k) → Below B w w' := fun B hB hk => (((Below.refl B w).alloc hB _).grown hg (by simp; omega) hk)
  exact ⟨v', w', hrun, hO', hB base hb fun k hk => (h.block k hk).1, hB⟩

theorem lasts_step {D : List Chg} {k : Nat} (h : k < D.length) : lasts (D.drop k) = if hk : k + 1 < D.length then (if D[k + 1].key = D[k].key then lasts (D.drop (k + 1)) else strip D[k] :: lasts (D.drop (k + 1))) else [strip D[k]] := by
  rw [List.drop_eq_getElem_cons h]
  by_cases hk : k + 1 < D.length
  · rw [dif_pos hk, List.drop_eq_getElem_cons hk]
    rfl
  · rw [dif_neg hk, List.drop_eq_nil_of_le (by omega)]
    rfl

theorem bl_drew (w : World) (n : Nat) : Below w.heap.size w (w.drewN n) := ⟨rfl, rfl, rfl, Nat.le_refl _, fun _ _ => rfl⟩
set_option maxRecDepth 100000 in
set_option maxHeartbeats 1000000 in
theorem settled_any (A : Option Addr) (m c : Nat) (ls : List SlV) (w : World) (hm : m = ls.length) (hL : Lists w w.heap.size A ls) (hs : (flat ls).length ≤ 4294967296) (hml : m ≤ 1099511627776) :
    Calls Tryz.prog 44 #[.slice A m c] w fun e w' => ∃ v, e = .returned v ∧ OwnC w' w.heap.size v (setl (flat ls)) ∧ Below w.heap.size w w' := by
  have hcc := concat_any A m c ls w hm hL (by omega) hml
  have HS := Lib.hid hs
  clear hm hL hs
  go_enter Tryz.func44, Tryz.ntmps44
  go_wp2_with fail
  refine hcc.mono ?_
  rintro e w1 ⟨v1, rfl, hO1, hB1⟩
  have hsc := sort_own hO1 (by have := HS.out; omega)
  unfold cmpV at hsc
  have HB1 := Lib.hid hB1
  clear hO1 hB1 hcc
  go_wp2_with fail
  refine hsc.mono ?_
  rintro e w2 ⟨rfl, D, hO2, hDl, hDs, hB2⟩
  have HB2 := Lib.hid (HB1.out.trans hB2)
  have hDn : D.length ≤ 4294967296 := by have := HS.out; omega
  have HDs := Lib.hid hDs
  obtain ⟨A2, c2, rfl, hC2, hz2, hc21, hc22, hab⟩ := hO2.chs
  have HC2 := Lib.hid hC2
  have HAB := Lib.hid hab
  clear hsc HB1 hO2 hDl hDs hB2 hC2 hab
  go_wp2
  go_loopg [4, 5, 6, 13] D.length (fun kx s4 s5 s6 s13 wr => ∃ (k : Nat) (R : List Chg), s13 = .int .i64 k ∧ k ≤ D.length ∧ D.length - k ≤ kx ∧ Hid (OwnC wr w2.heap.size s4 R) ∧ R.length ≤ k ∧ Hid (R ++ lasts (D.drop k) = lasts D) ∧ Hid (Below w2.heap.size w2 wr))
  case atStart => exact ⟨0, [], rfl, by omega, by omega, Lib.hid (OwnC.nil _ _), by simp, Lib.hid rfl, Lib.hid (Below.refl _ _)⟩
  case round =>
    obtain ⟨k, R, rfl, hkm, hkx, HO, hRk, HR, HB⟩ := hrel
    by_cases hlt : k < D.length
    · have hltI : (k : Int) < D.length := by omega
      obtain ⟨ad, rfl, hbl, p0, p1, p2⟩ := (HC2.out.below HB.out).pick hlt
      have HP : Hid _ := Lib.hid (HC2.out.below HB.out)
      have hstep := lasts_step hlt
      have HSt := Lib.hid hstep
      clear hstep
      generalize hx : D[k] = x at *
      have hbw : w2.heap.size ≤ wr.heap.size := HB.out.size
      have HCell : Hid (∀ W, Below wr.heap.size wr W → ∀ (hk : k + 1 < D.length), W.cell? (ad.add ((k + 1) * 3)) = some (.string ⟨D[k + 1].key.toArray⟩)) := Lib.hid fun W hW hk => by
        obtain ⟨ad', e, _, q0, _⟩ := (HP.out.below (hW.mono hbw)).pick hk
        cases e
        exact q0
      go_wp2_with fail
      have h3B : Below wr.heap.size wr (wr.alloc (.cells #[.string ⟨x.key.toArray⟩, .string ⟨x.val.toArray⟩, .bool x.gone] 55)) := (Below.refl _ wr).alloc (Nat.le_refl _) _
      have h3b : Blk (wr.alloc (.cells #[.string ⟨x.key.toArray⟩, .string ⟨x.val.toArray⟩, .bool x.gone] 55)) wr.heap.size 55 #[.string ⟨x.key.toArray⟩, .string ⟨x.val.toArray⟩, .bool x.gone] := heap_alloc_new wr _
      have HO3 := Lib.hid (HO.out.below h3B (Nat.le_refl _))
      have HB3 := Lib.hid (HB.out.trans (h3B.mono hbw))
      have HOl := Lib.hid (fun j hj => (HO.out.block j hj).2)
      have HCell := Lib.hid (HCell.out _ h3B)
      have hbl3 : w2.heap.size ≤ wr.heap.size := hbw
      generalize (wr.alloc (.cells #[.string ⟨x.key.toArray⟩, .string ⟨x.val.toArray⟩, .bool x.gone] 55)) = W at *
      have H3b := Lib.hid h3b
      have b0 : W.cell? ⟨wr.heap.size, 0, none⟩ = some (.string ⟨x.key.toArray⟩) := h3b.cell 0
      have hWl := h3b.lt
      clear h3B h3b HO HB HP HC2 hz2 p0 p1 p2 
      by_cases hk : k + 1 < D.length
      · have hkI : (k : Int) + 1 < D.length := by omega
        have n0 := HCell.out hk
        have hst := HSt.out
        rw [dif_pos hk] at hst
        have HSt2 := Lib.hid hst
        have hR2 : R.length + 1 ≤ k + 1 := by omega
        clear HSt hst HCell
        generalize D[k + 1] = y at *
        have hkw : (0 : Int) ≤ (k : Int) + 1 := by omega
        have hkt : ((k : Int) + 1).toNat = k + 1 := by omega
        have hqw : IntKind.i64.wrap ((k : Int) + 1) = (k : Int) + 1 := by rw [IntKind.wrap_i64]; omega
        go_quiet (fail)
        have H4b : Hid (Blk (W.drewN nq) wr.heap.size 55 #[.string ⟨x.key.toArray⟩, .string ⟨x.val.toArray⟩, .bool x.gone]) := H3b
        have HO4 : Hid (OwnC (W.drewN nq) w2.heap.size u4 R) := HO3
        have HB4 : Hid (Below w2.heap.size w2 (W.drewN nq)) := Lib.hid (HB3.out.trans ((bl_drew W nq).mono HB3.out.size))
        have hW4 : wr.heap.size < (W.drewN nq).heap.size := hWl
        clear b0 n0 hkw hkt hqw H3b HO3 HB3 hWl
        generalize W.drewN nq = W4 at *
        by_cases hkey : y.key = x.key
        · have hkb : (y.key == x.key) = true := by rw [beq_iff_eq]; exact hkey
          have hst := HSt2.out
          rw [if_pos hkey] at hst
          have HSt3 := Lib.hid hst
          clear hst HSt2 hkey
          rw [hkb]
          go_wp2
          go_roundg (D.length - (k + 1))
          case measure => omega
          case rel => exact ⟨k + 1, R, by go_num, by omega, Nat.le_refl _, HO4, by omega, Lib.hid (by rw [← HSt3.out]; exact HR.out), HB4⟩
        · have hkb : (y.key == x.key) = false := by rw [beq_eq_false_iff_ne]; exact hkey
          have hst := HSt2.out
          rw [if_neg hkey] at hst
          clear HSt2
          have HSt2 := Lib.hid hst
          clear hst hkey
          rw [hkb]
          cases hg : x.gone
          · have hsx : strip x = x := by simp [strip, hg]
            obtain ⟨v5, w5, hrun, hO5, _, hB5⟩ := append_one x HO4.out (by omega) (by omega)
            have HO5 := Lib.hid hO5
            have HB5 := Lib.hid (HB4.out.trans (hB5 w2.heap.size (by omega) fun j hj => (HO4.out.block j hj).1))
            have HX := Lib.hid hsx
            rw [hg] at hrun
            have c0 : W4.cell? ⟨wr.heap.size, 0, none⟩ = some (.string ⟨x.key.toArray⟩) := H4b.out.cell 0
            have c1 : W4.cell? ⟨wr.heap.size, 1, none⟩ = some (.string ⟨x.val.toArray⟩) := H4b.out.cell 1
            have c2' : W4.cell? ⟨wr.heap.size, 2, none⟩ = some (.bool false) := (H4b.out.cell 2).trans (by rw [hg]; rfl)
            clear hO5 hB5 HO4 HB4 H4b hsx hg
            go_wp2_with (first | (at_builtin; refine Lib.wpList_append_run _ rfl _ _ _ _ rfl _ _ rfl rfl _ _ (hrun _) ?_) | go_in)
            go_roundg (D.length - (k + 1))
            case measure => omega
            case rel => exact ⟨k + 1, R ++ [x], by go_num, by omega, Nat.le_refl _, HO5, by simp; omega, Lib.hid (by rw [← HR.out, HSt2.out, HX.out]; simp), HB5⟩
          · have hsx : strip x = ⟨x.key, [], true⟩ := by simp [strip, hg]
            have hO' := HO4.out.keep (w' := W4.setCell ⟨wr.heap.size, 1, none⟩ (.string ⟨#[]⟩)) fun j hj => Below.heap_setCell W4 _ _ j (by have := HO4.out.block j hj; have := HOl.out j hj; show j ≠ wr.heap.size; omega)
            have hB' := HB4.out.setCell (p := ⟨wr.heap.size, 1, none⟩) hbl3 (.string ⟨#[]⟩)
            have hz' : (W4.setCell ⟨wr.heap.size, 1, none⟩ (.string ⟨#[]⟩)).heap.size = W4.heap.size := by simp
            obtain ⟨v5, w5, hrun, hO5, _, hB5⟩ := append_one ⟨x.key, [], true⟩ hO' (by omega) (by omega)
            have HO5 := Lib.hid hO5
            have HB5 := Lib.hid (hB'.trans (hB5 w2.heap.size (by omega) fun j hj => (HO4.out.block j hj).1))
            have HX := Lib.hid hsx
            rw [hz'] at hrun
            have c0 : W4.cell? ⟨wr.heap.size, 0, none⟩ = some (.string ⟨x.key.toArray⟩) := H4b.out.cell 0
            have c1 : W4.cell? ⟨wr.heap.size, 1, none⟩ = some (.string ⟨x.val.toArray⟩) := H4b.out.cell 1
            have c2' : W4.cell? ⟨wr.heap.size, 2, none⟩ = some (.bool true) := (H4b.out.cell 2).trans (by rw [hg]; rfl)
            have z1 := H4b.out.free 1
            clear hO5 hB5 HO4 HB4 H4b hsx hg hO' hB' hz'
            go_wp2_with (first | (at_builtin; refine Lib.wpList_append_run _ rfl _ _ _ _ rfl _ _ rfl rfl _ _ (hrun _) ?_) | go_in)
            go_roundg (D.length - (k + 1))
            case measure => omega
            case rel => exact ⟨k + 1, R ++ [⟨x.key, [], true⟩], by go_num, by omega, Nat.le_refl _, HO5, by simp; omega, Lib.hid (by rw [← HR.out, HSt2.out, HX.out]; simp), HB5⟩
      · have hkI : ¬ (k : Int) + 1 < D.length := by omega
        have hst := HSt.out
        rw [dif_neg hk] at hst
        have hdn : lasts (D.drop (k + 1)) = [] := by rw [List.drop_eq_nil_of_le (by omega)]; rfl
        have HSt2 : Hid (lasts (D.drop k) = strip x :: lasts (D.drop (k + 1))) := Lib.hid (by rw [hst, hdn])
        clear HSt hst HCell hdn
        have n0 := True.intro
        have hkw : (0 : Int) ≤ (k : Int) + 1 := by omega
        have hkt : ((k : Int) + 1).toNat = k + 1 := by omega
        have hqw : IntKind.i64.wrap ((k : Int) + 1) = (k : Int) + 1 := by rw [IntKind.wrap_i64]; omega
        go_quiet (fail)
        have H4b : Hid (Blk (W.drewN nq) wr.heap.size 55 #[.string ⟨x.key.toArray⟩, .string ⟨x.val.toArray⟩, .bool x.gone]) := H3b
        have HO4 : Hid (OwnC (W.drewN nq) w2.heap.size u4 R) := HO3
        have HB4 : Hid (Below w2.heap.size w2 (W.drewN nq)) := Lib.hid (HB3.out.trans ((bl_drew W nq).mono HB3.out.size))
        have hW4 : wr.heap.size < (W.drewN nq).heap.size := hWl
        clear b0 n0 hkw hkt hqw H3b HO3 HB3 hWl
        generalize W.drewN nq = W4 at *
        cases hg : x.gone
        · have hsx : strip x = x := by simp [strip, hg]
          obtain ⟨v5, w5, hrun, hO5, _, hB5⟩ := append_one x HO4.out (by omega) (by omega)
          have HO5 := Lib.hid hO5
          have HB5 := Lib.hid (HB4.out.trans (hB5 w2.heap.size (by omega) fun j hj => (HO4.out.block j hj).1))
          have HX := Lib.hid hsx
          rw [hg] at hrun
          have c0 : W4.cell? ⟨wr.heap.size, 0, none⟩ = some (.string ⟨x.key.toArray⟩) := H4b.out.cell 0
          have c1 : W4.cell? ⟨wr.heap.size, 1, none⟩ = some (.string ⟨x.val.toArray⟩) := H4b.out.cell 1
          have c2' : W4.cell? ⟨wr.heap.size, 2, none⟩ = some (.bool false) := (H4b.out.cell 2).trans (by rw [hg]; rfl)
          clear hO5 hB5 HO4 HB4 H4b hsx hg
          go_wp2_with (first | (at_builtin; refine Lib.wpList_append_run _ rfl _ _ _ _ rfl _ _ rfl rfl _ _ (hrun _) ?_) | go_in)
          go_roundg (D.length - (k + 1))
          case measure => omega
          case rel => exact ⟨k + 1, R ++ [x], by go_num, by omega, Nat.le_refl _, HO5, by simp; omega, Lib.hid (by rw [← HR.out, HSt2.out, HX.out]; simp), HB5⟩
        · have hsx : strip x = ⟨x.key, [], true⟩ := by simp [strip, hg]
          have hO' := HO4.out.keep (w' := W4.setCell ⟨wr.heap.size, 1, none⟩ (.string ⟨#[]⟩)) fun j hj => Below.heap_setCell W4 _ _ j (by have := HO4.out.block j hj; have := HOl.out j hj; show j ≠ wr.heap.size; omega)
          have hB' := HB4.out.setCell (p := ⟨wr.heap.size, 1, none⟩) hbl3 (.string ⟨#[]⟩)
          have hz' : (W4.setCell ⟨wr.heap.size, 1, none⟩ (.string ⟨#[]⟩)).heap.size = W4.heap.size := by simp
          obtain ⟨v5, w5, hrun, hO5, _, hB5⟩ := append_one ⟨x.key, [], true⟩ hO' (by omega) (by omega)
          have HO5 := Lib.hid hO5
          have HB5 := Lib.hid (hB'.trans (hB5 w2.heap.size (by omega) fun j hj => (HO4.out.block j hj).1))
          have HX := Lib.hid hsx
          rw [hz'] at hrun
          have c0 : W4.cell? ⟨wr.heap.size, 0, none⟩ = some (.string ⟨x.key.toArray⟩) := H4b.out.cell 0
          have c1 : W4.cell? ⟨wr.heap.size, 1, none⟩ = some (.string ⟨x.val.toArray⟩) := H4b.out.cell 1
          have c2' : W4.cell? ⟨wr.heap.size, 2, none⟩ = some (.bool true) := (H4b.out.cell 2).trans (by rw [hg]; rfl)
          have z1 := H4b.out.free 1
          clear hO5 hB5 HO4 HB4 H4b hsx hg hO' hB' hz'
          go_wp2_with (first | (at_builtin; refine Lib.wpList_append_run _ rfl _ _ _ _ rfl _ _ rfl rfl _ _ (hrun _) ?_) | go_in)
          go_roundg (D.length - (k + 1))
          case measure => omega
          case rel => exact ⟨k + 1, R ++ [⟨x.key, [], true⟩], by go_num, by omega, Nat.le_refl _, HO5, by simp; omega, Lib.hid (by rw [← HR.out, HSt2.out, HX.out]; simp), HB5⟩
    · have hltI : ¬ (k : Int) < D.length := by omega
      go_wp2
      go_ret
      refine ⟨_, rfl, ?_, HB2.out.trans (HB.out.mono HB2.out.size)⟩
      have h1 := HR.out
      rw [List.drop_eq_nil_of_le (by omega)] at h1
      have h2 : R = setl (flat ls) := by rw [← HDs.out, ← h1]; simp [lasts]
      rw [← h2]
      exact HO.out.mono HB2.out.size
end Go.Proofs.YtmpklljiddggpaaGreatDoor
