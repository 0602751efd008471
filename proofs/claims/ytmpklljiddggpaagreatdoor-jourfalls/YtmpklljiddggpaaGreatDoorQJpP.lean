/-
  What the statements' loops lean on: records apart from a store, bytes filled one by one, how much room records take. Conditions: each theorem's own premises.
-/
import Derived.Test.YtmpklljiddggpaaGreatDoorQJpL
import Derived.Test.YtmpklljiddggpaaGreatDoorQJpJ
namespace Go.Proofs.YtmpklljiddggpaaGreatDoor
open Go.Shelf Go.RowKit Go.Lib Go.Sort
attribute [local go_sem] Oper.semAt_some

/-- Records of the statements lie apart from a store and its disk. -/
theorem Jr.apart {w : World} {base g f m sb b2 : Nat} {v v2 : Value} {t : St} {l : List Chg} (J : Jr w base g f m sb v t) (h : Ow LC w b2 v2 l) : ∀ k, v2.ownBlock = some k → k ∉ [g, f, m, sb] := by
  intro k hk
  rcases h.form with ⟨rfl, _⟩ | ⟨k', cap, cs, rfl, _, hb, _⟩
  · cases hk
  · cases hk
    have hb : Blk w k' 78 cs := hb
    simp only [List.mem_cons, List.not_mem_nil, not_or, or_false]
    refine ⟨?_, ?_, ?_, ?_⟩
    · rintro rfl
      obtain ⟨c, h1, _⟩ := J.dk.head
      have := hb.symm.trans h1
      cases this
    · rintro rfl
      obtain ⟨c, h1, _⟩ := J.dk.row
      have := hb.symm.trans h1
      cases this
    · rintro rfl
      obtain ⟨es, clock, h1, _⟩ := J.dk.map
      have := hb.symm.trans h1
      cases this
    · rintro rfl
      have := hb.symm.trans J.st
      cases this
/-- What a call on a store leaves of such records. -/
theorem Ow.past {w w' : World} {base g f m sb b2 : Nat} {v v2 : Value} {t : St} {l : List Chg} (h : Ow LC w b2 v2 l) (J : Jr w base g f m sb v t) (hf : Fr [g, f, m, sb] w w') : Ow LC w' b2 v2 l := h.fr hf (J.apart h)

/-! ### bytes, filled one by one -/
def filC (n k : Nat) (u : UInt8) : Array Value := (List.replicate k (byt u) ++ List.replicate (n - k) (byt 0)).toArray
theorem fil_made (n : Nat) (u : UInt8) : madeCells #[.int .u8 0] n = filC n 0 u := by
  apply Array.ext_getElem?
  intro j
  rcases Nat.lt_or_ge j n with h | h
  · rw [made_cell _ _ _ h]
    have e1 : j % 1 = 0 := by omega
    show some (#[Value.int .u8 0][j % 1]!) = _
    rw [e1]
    simp [filC, h]
    rfl
  · rw [Array.getElem?_eq_none (by rw [size_madeCells]; simpa using h), Array.getElem?_eq_none (by simp [filC]; omega)]
theorem make_fil (n : Nat) (u : UInt8) (w : World) (h : n ≤ 100000) : (Instr.makeSlice 88 (.int .i64 (n : Int)) (.int .i64 (n : Int))).run Tryz.prog w = .ok (.slice (some ⟨w.heap.size, 0, none⟩) n n) (w.alloc (.cells (filC n 0 u) 5)) := by
  obtain ⟨i, hi, hz, hs, hb⟩ := info_parts Tryz.info8
  have := run_make (P := Tryz.prog) w 88 5 i _ Tryz.underlying88 hi hz .i64 .i64 (n : Int) (n : Int) (by omega) (by omega) (by rw [hb]; omega) (by omega)
  rw [this, hs]
  simp only [Int.toNat_natCast, Nat.mul_one]
  rw [← fil_made n u]
  rfl
theorem fil_set {n k : Nat} (u : UInt8) (h : k < n) : (filC n k u).setIfInBounds k (byt u) = filC n (k + 1) u := by
  unfold filC
  rw [List.setIfInBounds_toArray]
  congr 1
  rw [List.set_append_right _ _ (by simp), List.length_replicate, Nat.sub_self, show n - k = (n - (k + 1)) + 1 by omega, List.replicate_succ, List.set_cons_zero, List.replicate_succ', List.append_assoc]
  rfl
theorem fil_cell {n k : Nat} (u : UInt8) (h : k < n) : (filC n k u)[k]? = some (byt 0) := by
  unfold filC
  rw [List.getElem?_toArray, List.getElem?_append_right (by simp), List.length_replicate, Nat.sub_self, List.getElem?_replicate, if_pos (by omega)]
theorem fil_str {w : World} {gb n : Nat} {u : UInt8} (h : Blk w gb 5 (filC n n u)) : Str w w.heap.size (some ⟨gb, 0, none⟩) (List.replicate n u) := by
  refine ⟨fun _ => ⟨_, rfl, h.lt, fun j v hv => ?_⟩⟩
  rw [List.getElem?_replicate] at hv
  split at hv
  · rename_i hj
    cases hv
    rw [lit_add, h.cell]
    unfold filC
    rw [List.getElem?_toArray, List.getElem?_append_left (by simpa using hj), List.getElem?_replicate, if_pos hj]
    rfl
  · cases hv

/-! ### how much room records take -/
def sum48 : List Chg → Nat
  | [] => 0
  | c :: r => c.key.length + c.val.length + 48 + sum48 r
theorem sum48_append (a b : List Chg) : sum48 (a ++ b) = sum48 a + sum48 b := by
  induction a with
  | nil => simp [sum48]
  | cons c r ih => simp [sum48, ih]; omega
theorem sumC_le (l : List Chg) : sumC l ≤ sum48 l := by
  induction l with
  | nil => simp [sumC, sum48]
  | cons c r ih => simp [sumC, sum48]; omega
/-- Where there is no room, there is much to hold. -/
theorem room_full {n : Nat} {l : List Chg} (hok : ∀ c ∈ l, OkC c) (h : roomN n < secs l) : (n : Int) * 32 - 2048 < (sum48 l : Int) := by
  have h1 := encL_sum hok
  have h2 := sumC_le l
  unfold roomN secs at h
  omega
theorem aft_ok {n K : Nat} {t : St} (h : Ok n K t) {l : List Chg} (h1 : l.any badKey = false) (h2 : l.any badVal = false) : ∀ c ∈ aft (t.r ++ l), OkC c := by
  rw [← aft_eff h.inv.recs l]
  exact next_ok h.inv h1 h2
/-- What a Commit answers, where no key and no value is amiss and the records are few. -/
theorem room_says {n K : Nat} {t : St} (h : Ok n K t) {l : List Chg} (h1 : l.any badKey = false) (h2 : l.any badVal = false) (h3 : (aft (t.r ++ l)).length ≤ 256) : (comm t l).1 = .fine ∨ ((comm t l).1 = .full ∧ (n : Int) * 32 - 2048 < (sum48 (aft (t.r ++ l)) : Int)) := by
  rcases h.refused h1 h2 h3 with h4 | ⟨h4, h5⟩
  · exact .inl h4
  · exact .inr ⟨h4, room_full (aft_ok h h1 h2) h5⟩
theorem used_le {n K : Nat} {t : St} (h : Ok n K t) (hn : 3 ≤ n) : usedN t.h ≤ n ∧ t.h.used ≤ roomN n := by
  obtain ⟨L, hL, _⟩ := h.inv.has
  have := hL.used
  rw [h.len] at this
  refine ⟨?_, this⟩
  unfold usedN
  split
  · omega
  · unfold roomN at this
    omega
end Go.Proofs.YtmpklljiddggpaaGreatDoor

/-
  What a store is told, as a list; the walk of the statements' light. Conditions: each theorem's own premises.
-/
namespace Go.Proofs.YtmpklljiddggpaaGreatDoor
open Go.Shelf Go.RowKit Go.Lib Go.Sort
attribute [local go_sem] Oper.semAt_some

/-- A thing that a store is told. -/
structure DoJ where
  kind : Int
  A : Option Addr
  c : Nat
  l : List Chg
/-- The slice at a holds these things, in blocks below B. -/
structure Djs (W : World) (B : Nat) (a : Option Addr) (L : List DoJ) : Prop where
  here : L ≠ [] → ∃ ad, a = some ad ∧ ad.block < B ∧ ∀ j t, L[j]? = some t → W.cell? (ad.add (j * 2)) = some (.int .i64 t.kind) ∧ W.cell? ⟨(ad.add (j * 2)).block, (ad.add (j * 2)).off + 1, none⟩ = some (.slice t.A t.l.length t.c)
  each : ∀ t ∈ L, Chs W B t.A t.l ∧ (t.A = none → t.c = 0)
theorem Djs.below {W W' : World} {B : Nat} {a : Option Addr} {L : List DoJ} (h : Djs W B a L) (hb : Below B W W') : Djs W' B a L :=
  ⟨fun hn => by
    obtain ⟨ad, e, hlt, hc⟩ := h.here hn
    exact ⟨ad, e, hlt, fun j t ht => ⟨(hb.cell (by rw [add_block]; exact hlt)).trans (hc j t ht).1, (hb.cell (by show (ad.add (j * 2)).block < B; rw [add_block]; exact hlt)).trans (hc j t ht).2⟩⟩,
   fun t ht => ⟨(h.each t ht).1.below hb, (h.each t ht).2⟩⟩
theorem Djs.pick {W : World} {B : Nat} {a : Option Addr} {L : List DoJ} (h : Djs W B a L) {k : Nat} (hk : k < L.length) : ∃ ad, a = some ad ∧ ad.block < B ∧ W.cell? (ad.add (k * 2)) = some (.int .i64 L[k].kind) ∧ W.cell? ⟨(ad.add (k * 2)).block, (ad.add (k * 2)).off + 1, none⟩ = some (.slice L[k].A L[k].l.length L[k].c) ∧ Chs W B L[k].A L[k].l ∧ (L[k].A = none → L[k].c = 0) := by
  obtain ⟨ad, e, hlt, hc⟩ := h.here (by rintro rfl; simp at hk)
  have h1 := hc k _ (List.getElem?_eq_getElem hk)
  have h2 := h.each L[k] (List.getElem_mem hk)
  exact ⟨ad, e, hlt, h1.1, h1.2, h2.1, h2.2⟩
/-- Things that are few and small. -/
structure LightJ (L : List DoJ) (most long : Nat) : Prop where
  few : L.length ≤ most
  each : ∀ i (hi : i < L.length), L[i].l.length ≤ 8 ∧ ∀ j (hj : j < L[i].l.length), L[i].l[j].key.length ≤ 60 ∧ L[i].l[j].val.length ≤ long

/-- What light leaves. -/
def RetLight (L : List DoJ) (most long : Nat) (w : World) (e : Ending) (w' : World) : Prop := ∃ b : Bool, e = .returned (.bool b) ∧ (b = true → LightJ L most long) ∧ w' = w
theorem RetLight.no {L : List DoJ} {most long : Nat} {w : World} {e : Ending} (h : e = .returned (.bool false)) : RetLight L most long w e w := ⟨false, h, fun h => (by cases h), rfl⟩
set_option maxRecDepth 100000 in
set_option maxHeartbeats 4000000 in
theorem light_any (a : Option Addr) (c : Nat) (L : List DoJ) (most long : Nat) (w : World) (hD : Djs w w.heap.size a L) (hm : most ≤ 1000) :
    Calls Tryz.prog 6 #[.slice a L.length c, .int .i64 (most : Int), .int .i64 (long : Int)] w (RetLight L most long w) := by
  have HD := Lib.hid hD
  clear hD
  go_enter Tryz.func6, Tryz.ntmps6
  by_cases h1 : most < L.length
  · have h1I : (most : Int) < L.length := by omega
    go_wp2
    go_ret
    exact .no rfl
  have h1I : ¬ (most : Int) < L.length := by omega
  go_wp2
  go_loopg [7, 8] L.length (fun kx s7 s8 wr => ∃ i : Nat, s7 = .int .i64 i ∧ i ≤ L.length ∧ L.length - i ≤ kx ∧ Hid (∀ j (hj : j < L.length), j < i → L[j].l.length ≤ 8 ∧ ∀ q (hq : q < L[j].l.length), L[j].l[q].key.length ≤ 60 ∧ L[j].l[q].val.length ≤ long) ∧ w = wr)
  case atStart => exact ⟨0, rfl, by omega, by omega, Lib.hid (fun j hj h => by omega), rfl⟩
  case round =>
    obtain ⟨i, rfl, hin, hix, HN, rfl⟩ := hrel
    by_cases hlt : i < L.length
    · have hltI : (i : Int) < L.length := by omega
      obtain ⟨ad, rfl, hbl, p0, p1, hC, hz⟩ := HD.out.pick hlt
      have HX : Hid (∀ P : List Chg → Prop, P L[i].l → ∀ j (hj : j < L.length), j = i → P L[j].l) := Lib.hid fun P hP j hj e => by subst e; exact hP
      generalize L[i] = x at p0 p1 hC hz HX
      obtain ⟨xk, xA, xc, xl⟩ := x
      simp only at p0 p1 hC hz HX
      have HC := Lib.hid hC
      clear hC hz
      by_cases h8 : 8 < xl.length
      · have h8I : (8 : Int) < xl.length := by omega
        go_wp2
        go_ret
        exact .no rfl
      have h8I : ¬ (8 : Int) < xl.length := by omega
      go_wp2
      go_loopg [8] xl.length (fun ky s8 wq => ∃ k : Nat, s8 = .int .i64 k ∧ k ≤ xl.length ∧ xl.length - k ≤ ky ∧ Hid (∀ q (hq : q < xl.length), q < k → xl[q].key.length ≤ 60 ∧ xl[q].val.length ≤ long) ∧ w = wq)
      case atStart => exact ⟨0, rfl, by omega, by omega, Lib.hid (fun j hj h => by omega), rfl⟩
      case round =>
        obtain ⟨k, rfl, hkn, hky, HK, rfl⟩ := hrel
        by_cases hkl : k < xl.length
        · have hklI : (k : Int) < xl.length := by omega
          obtain ⟨ad2, rfl, hbl2, r0, r1, r2⟩ := HC.out.pick hkl
          have HY : Hid (∀ P : Chg → Prop, P xl[k] → ∀ j (hj : j < xl.length), j = k → P xl[j]) := Lib.hid fun P hP j hj e => by subst e; exact hP
          generalize xl[k] = y at r0 r1 r2 HY
          by_cases k1 : 60 < y.key.length
          · have k1I : (60 : Int) < y.key.length := by omega
            go_wp2
            go_ret
            exact .no rfl
          have k1I : ¬ (60 : Int) < y.key.length := by omega
          by_cases k2 : long < y.val.length
          · have k2I : (long : Int) < y.val.length := by omega
            go_wp2
            go_ret
            exact .no rfl
          have k2I : ¬ (long : Int) < y.val.length := by omega
          go_wp2
          go_roundg (xl.length - (k + 1))
          case measure => omega
          case rel => exact ⟨k + 1, by go_num, by omega, Nat.le_refl _, Lib.hid (fun q hq h => by
            rcases Nat.lt_or_ge q k with h3 | h3
            · exact HK.out q hq h3
            · exact HY.out (fun z => z.key.length ≤ 60 ∧ z.val.length ≤ long) ⟨by omega, by omega⟩ q hq (by omega)), rfl⟩
        · have hklI : ¬ (k : Int) < xl.length := by omega
          go_wp2
          go_roundg (L.length - (i + 1))
          case measure => omega
          case rel => exact ⟨i + 1, by go_num, by omega, Nat.le_refl _, Lib.hid (fun j hj h => by
            rcases Nat.lt_or_ge j i with h3 | h3
            · exact HN.out j hj h3
            · exact HX.out (fun z => z.length ≤ 8 ∧ ∀ q (hq : q < z.length), z[q].key.length ≤ 60 ∧ z[q].val.length ≤ long) ⟨by omega, fun q hq => HK.out q hq (by omega)⟩ j hj (by omega)), rfl⟩
    · have hltI : ¬ (i : Int) < L.length := by omega
      go_wp2
      go_ret
      exact ⟨true, rfl, fun _ => ⟨by omega, fun j hj => HN.out j hj (by omega)⟩, rfl⟩
end Go.Proofs.YtmpklljiddggpaaGreatDoor

/-
  Plain: records of small values have room; Commit answers what the statements' after says. Conditions: none.
-/
namespace Go.Proofs.YtmpklljiddggpaaGreatDoor
open Go.Shelf Go.RowKit Go.Lib Go.Sort

theorem sumC_few {l : List Chg} {a b : Nat} (h : ∀ c ∈ l, c.key.length ≤ a ∧ c.val.length ≤ b) : sumC l ≤ l.length * (a + b + 30) := by
  induction l with
  | nil => simp [sumC]
  | cons c r ih =>
    have h1 := h c (by simp)
    have h2 := ih fun x hx => h x (by simp [hx])
    rw [sumC, List.length_cons, Nat.succ_mul]
    omega
/-- Values of at most so many bytes. -/
def Vals (n : Nat) (l : List Chg) : Prop := ∀ c ∈ l, c.val.length ≤ n
theorem Vals.aft {n : Nat} {r l : List Chg} (h1 : Vals n r) (h2 : Vals n l) : Vals n (aft (r ++ l)) := fun c hc => by
  rcases List.mem_append.1 (aft_mem hc) with h | h
  · exact h1 c h
  · exact h2 c h
theorem Vals.aftR {n : Nat} {r l : List Chg} (h1 : Vals n r) (h2 : Vals n l) : Vals n (aftR r l) := by
  unfold Go.Proofs.YtmpklljiddggpaaGreatDoor.aftR
  split
  · exact h1
  · split
    · exact h1
    · split
      · exact h1
      · exact h1.aft h2
/-- Few records of small values have room. -/
theorem vals_room {l : List Chg} {b n : Nat} (hok : ∀ c ∈ l, OkC c) (hv : Vals b l) (hf : l.length ≤ 256) (hb : 4 * b + 282 ≤ n) : secs l ≤ roomN n := by
  have h1 := encL_sum hok
  have h2 := sumC_few (l := l) (a := 40) (b := b) fun c hc => ⟨(hok c hc).k2, hv c hc⟩
  have h3 : l.length * (40 + b + 30) ≤ 256 * (40 + b + 30) := Nat.mul_le_mul_right _ hf
  unfold secs roomN
  omega
/-- Commit answers what the statements' after says, where there is room. -/
theorem comm_after {n K b : Nat} {t : St} (h : Ok n K t) (hn : 1 ≤ n) {l : List Chg} (hb : 4 * b + 282 ≤ n) (hr : Vals b t.r) (hl : Vals b l) : codeR (comm t l).1 = aftN t.r l ∧ (comm t l).2.r = aftR t.r l := by
  have he := aft_eff h.inv.recs l
  unfold aftN aftR
  by_cases k1 : l.any badKey = true
  · rw [comm_key k1, if_pos k1, if_pos k1]
    exact ⟨rfl, rfl⟩
  · have k1' : l.any badKey = false := by simpa using k1
    rw [if_neg k1, if_neg k1]
    by_cases k2 : l.any badVal = true
    · rw [comm_val k1' k2, if_pos k2, if_pos k2]
      exact ⟨rfl, rfl⟩
    · have k2' : l.any badVal = false := by simpa using k2
      rw [if_neg k2, if_neg k2]
      by_cases k3 : 256 < (aft (t.r ++ l)).length
      · rw [if_pos k3, if_pos k3]
        have : comm t l = (.many, t) := by unfold comm; rw [he, if_neg k1, if_neg k2, if_pos k3]
        rw [this]
        exact ⟨rfl, rfl⟩
      · rw [if_neg k3, if_neg k3]
        have hf := h.fine k1' k2' (by omega) (vals_room (aft_ok h k1' k2') (hr.aft hl) (by omega) hb)
        exact ⟨by rw [hf]; rfl, (h.step hn l).2.2.1 hf⟩
end Go.Proofs.YtmpklljiddggpaaGreatDoor
