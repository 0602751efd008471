/-
  The walks of the library's Grow and Concat at declarations; tree's variables. Conditions: each theorem's own premises.
-/
import Derived.Test.YtacmibkcnmaagaaDoorQTvC
import Derived.Lib.AppendZeros
namespace Go.Proofs.YtacmibkcnmaagaaDoor
open Go.RowKit Go.Lib Go.Sort Go.Shelf

theorem infoD : (Tryd.prog.info? 26).map (fun i => (i.zero, i.size, i.bytes)) = some (some (.agg #[.int .i64 0, .string ⟨#[]⟩, .int .i64 0, .slice none 0 0]), 4, 56) := by kernel_rfl
theorem LDat7 : LieAt Tryd.prog 27 LD := by
  obtain ⟨i0, hi, hz0, hz1, hz2⟩ := info_parts infoD
  exact ⟨Tryd.underlying27, ⟨i0, _, hi, hz0, hz1, by omega, rfl⟩, by decide⟩
set_option maxRecDepth 100000 in
set_option maxHeartbeats 1000000 in
theorem growD_nil (n : Nat) (w : World) (hn : n ≤ 1099511627776) : Calls Tryd.prog 117 #[.slice none 0 0, .int .i64 (n : Int)] w fun e w' => ∃ v, e = .returned v ∧ Ow LD w' w.heap.size v [] ∧ Below w.heap.size w w' := by
  have h1 : ¬ ((n : Int) < 0) := by omega
  by_cases h0 : n = 0
  · subst h0
    go_enter Tryd.func117, Tryd.ntmps117
    go_wp2
    go_ret
    exact ⟨_, rfl, Ow.nil LD _ _, Below.refl _ _⟩
  · have h2 : (0 : Int) < n := by omega
    obtain ⟨i0, hi, hz0, hz1, hz2⟩ := info_parts infoD
    have hrun := fun ty => run_append_nil_zeros (P := Tryd.prog) w 27 3 ty 26 i0 _ .i64 .i64 Tryd.underlying27 Tryd.underlying3 hi hz0 n (by omega) (by omega) (by omega) (by rw [hz2]; omega)
    have hge := grownCap_ge w n 0 26
    have hle := grownCap_le_maxLen w n 0 26 (by unfold maxLen; omega)
    obtain ⟨cs, hcs⟩ : ∃ cs, cs = Builtin.zeroCells (Value.agg #[.int .i64 0, .string ⟨#[]⟩, .int .i64 0, .slice none 0 0]).cells n ++ Builtin.zeroCells (Value.agg #[.int .i64 0, .string ⟨#[]⟩, .int .i64 0, .slice none 0 0]).cells (grownCap w n 0 26 - n) := ⟨_, rfl⟩
    rw [← hcs] at hrun
    generalize hG : grownCap w n 0 26 = G at *
    have hsz : cs.size = G * 4 := by
      rw [hcs, Array.size_append, size_zeroCells, size_zeroCells]
      show n * 4 + (G - n) * 4 = G * 4
      omega
    have HS := Lib.hid hsz
    have HL := Lib.hid hle
    have hG63 : G ≤ 9223372036854775807 := by unfold maxLen at hle; omega
    clear hcs hsz hle hG
    go_enter Tryd.func117, Tryd.ntmps117
    go_wp2_with (at_builtin; refine Lib.wpList_append_run _ rfl _ _ _ _ rfl _ _ rfl rfl _ _ (hrun _) ?_)
    go_ret
    refine ⟨_, rfl, Ow.of (L := LD) (l := []) (cs := cs) (Nat.le_refl _) ?_ (Nat.zero_le _) HL.out HS.out rfl, (((Below.refl _ w).drew).alloc (Nat.le_refl _) _)⟩
    exact heap_alloc_new w.drew _

/-- A slice of changes, as a value. -/
structure SlD where
  A : Option Addr
  c : Nat
  l : List Dc
def SlD.v (s : SlD) : Value := .slice s.A s.l.length s.c
/-- The slice at A holds these slices of changes. -/
structure ListsD (w : World) (B : Nat) (A : Option Addr) (ls : List SlD) : Prop where
  here : ∀ i s, ls[i]? = some s → ∃ ad, A = some ad ∧ ad.block < B ∧ w.cell? (ad.add i) = some s.v
  chs : ∀ s ∈ ls, Rw LD w B s.A s.l ∧ (s.A = none → s.c = 0)
theorem ListsD.below {w w' : World} {B : Nat} {A : Option Addr} {ls : List SlD} (h : ListsD w B A ls) (hb : Below B w w') : ListsD w' B A ls :=
  ⟨fun i s hs => by
    obtain ⟨ad, e, hl, hc⟩ := h.here i s hs
    exact ⟨ad, e, hl, (hb.cell (by rw [add_block]; exact hl)).trans hc⟩, fun s hs => ⟨(h.chs s hs).1.below hb, (h.chs s hs).2⟩⟩
/-- All of them, one behind the other. -/
def flatD : List SlD → List Dc
  | [] => []
  | s :: r => s.l ++ flatD r
theorem flatD_append (a b : List SlD) : flatD (a ++ b) = flatD a ++ flatD b := by
  induction a with
  | nil => rfl
  | cons s r ih => simp [flatD, ih]
theorem flatD_take_succ {ls : List SlD} {k : Nat} (h : k < ls.length) : flatD (ls.take (k + 1)) = flatD (ls.take k) ++ ls[k].l := by
  rw [List.take_succ_eq_append_getElem h, flatD_append]
  simp [flatD]
theorem flatD_take_le (ls : List SlD) (k : Nat) : (flatD (ls.take k)).length ≤ (flatD ls).length := by
  have : flatD ls = flatD (ls.take k) ++ flatD (ls.drop k) := by rw [← flatD_append, List.take_append_drop]
  rw [this]
  simp

set_option maxRecDepth 100000 in
set_option maxHeartbeats 1000000 in
theorem concatD_any (A : Option Addr) (m c : Nat) (ls : List SlD) (w : World) (hm : m = ls.length) (hL : ListsD w w.heap.size A ls) (hs : (flatD ls).length ≤ 1099511627776) (hml : m ≤ 1099511627776) :
    Calls Tryd.prog 80 #[.slice A m c] w fun e w' => ∃ v, e = .returned v ∧ Ow LD w' w.heap.size v (flatD ls) ∧ Below w.heap.size w w' := by
  have HM := Lib.hid hm
  have HL := Lib.hid hL
  have HS := Lib.hid hs
  clear hm hL hs
  go_enter Tryd.func80, Tryd.ntmps80
  go_wp2
  go_loopg [3, 5, 11] m (fun kx s3 s5 s11 wr => ∃ (k : Nat) (z : Nat), s3 = .int .i64 z ∧ s11 = .int .i64 k ∧ k ≤ m ∧ m - k ≤ kx ∧ Hid (z = (flatD (ls.take k)).length) ∧ w = wr)
  case atStart => exact ⟨0, 0, rfl, rfl, by omega, by omega, Lib.hid rfl, rfl⟩
  case round =>
    obtain ⟨k, z, rfl, rfl, hkm, hkx, HZ, rfl⟩ := hrel
    have hz : z ≤ 1099511627776 := by have := HZ.out; have := flatD_take_le ls k; have := HS.out; omega
    by_cases hlt : k < m
    · have hltI : (k : Int) < m := by omega
      have hkl : k < ls.length := by have := HM.out; omega
      obtain ⟨ad, rfl, hb, hc⟩ := HL.out.here k ls[k] (List.getElem?_eq_getElem hkl)
      have hn := flatD_take_succ hkl
      have hz2 : z + ls[k].l.length ≤ 1099511627776 := by have := HZ.out; have h3 := flatD_take_le ls (k + 1); have := HS.out; rw [hn] at h3; simp at h3; omega
      have HZ2 : Hid (z + ls[k].l.length = (flatD (ls.take (k + 1))).length) := Lib.hid (by rw [hn, List.length_append, ← HZ.out])
      unfold SlD.v at hc
      generalize ls[k].l.length = q at *
      clear hn HZ
      go_wp2
      go_roundg (m - (k + 1))
      case measure => omega
      case rel => exact ⟨k + 1, z + q, by go_num, by go_num, by omega, Nat.le_refl _, HZ2, rfl⟩
    · have hltI : ¬ (k : Int) < m := by omega
      go_wp2_with fail
      refine (growD_nil z w hz).mono ?_
      rintro e w1 ⟨v1, rfl, hO1, hB1⟩
      have HO1 := Lib.hid hO1
      have HB1 := Lib.hid hB1
      clear hO1 hB1 HZ hkm hkx
      go_wp2
      go_loopg [6, 8, 27] m (fun kx s6 s8 s27 wr => ∃ (k : Nat), s27 = .int .i64 k ∧ k ≤ m ∧ m - k ≤ kx ∧ Hid (Ow LD wr w.heap.size s6 (flatD (ls.take k))) ∧ Hid (Below w.heap.size w wr))
      case atStart => exact ⟨0, rfl, by omega, by omega, HO1, HB1⟩
      case round =>
        clear HO1 HB1 hlt hltI
        obtain ⟨k, rfl, hkm, hkx, HO, HB⟩ := hrel
        by_cases hlt : k < m
        · have hltI : (k : Int) < m := by omega
          have hkl : k < ls.length := by have := HM.out; omega
          obtain ⟨ad, rfl, hb, hc⟩ := (HL.out.below HB.out).here k ls[k] (List.getElem?_eq_getElem hkl)
          obtain ⟨hch, hnil⟩ := (HL.out.below HB.out).chs ls[k] (List.getElem_mem hkl)
          have hn := flatD_take_succ hkl
          have hle : (flatD (ls.take k)).length + ls[k].l.length ≤ 1099511627776 := by have h3 := flatD_take_le ls (k + 1); have := HS.out; rw [hn] at h3; simp at h3; omega
          obtain ⟨v2, w2, hrun, hO2, hg2⟩ := append_ow LDat7 HO.out hch rfl hnil hle HB.out.size
          rw [← hn] at hO2
          have HO2 := Lib.hid hO2
          have HB2 := Lib.hid (HB.out.grown hg2 HB.out.size (fun j hj => (HO.out.block j hj).1))
          unfold SlD.v at hc
          generalize ls[k].l.length = q at *
          generalize ls[k].A = A2 at *
          generalize ls[k].c = c2 at *
          clear hn HO HB hch hnil hO2 hg2
          go_wp2_with (first | (at_builtin; refine Lib.wpList_append_run _ rfl _ _ _ _ rfl _ _ rfl rfl _ _ (hrun _) ?_) | go_in)
          go_roundg (m - (k + 1))
          case measure => omega
          case rel => exact ⟨k + 1, by go_num, by omega, Nat.le_refl _, HO2, HB2⟩
        · have hltI : ¬ (k : Int) < m := by omega
          go_wp2
          go_ret
          refine ⟨_, rfl, ?_, HB.out⟩
          have := HO.out
          rwa [List.take_of_length_le (by have := HM.out; omega)] at this
end Go.Proofs.YtacmibkcnmaagaaDoor
