/-
  The walk of the statements' changes; what a Commit of them leaves, wherever the power goes. Conditions: each theorem's own premises.
-/
import Derived.Test.YtmpklljiddggpaaGreatDoorQJqA
import Derived.Test.YtmpklljiddggpaaGreatDoorQJpX
namespace Go.Proofs.YtmpklljiddggpaaGreatDoor
open Go.Shelf Go.RowKit Go.Lib Go.Sort
attribute [local go_sem] Oper.semAt_some

def chgW (b : UInt8) (i : Nat) : Chg := ⟨keyK i, List.replicate (max 1 (10 * i)) b, false⟩
def chsW (b : UInt8) (n : Nat) : List Chg := (List.range n).map (chgW b)
theorem chsW_length (b : UInt8) (n : Nat) : (chsW b n).length = n := by simp [chsW]
theorem chsW_next (b : UInt8) (n : Nat) : chsW b (n + 1) = chsW b n ++ [chgW b n] := by simp [chsW, List.range_succ]
theorem chsW_mem {b : UInt8} {n : Nat} {c : Chg} (h : c ∈ chsW b n) : ∃ i, i < n ∧ c = chgW b i := by
  obtain ⟨i, hi, rfl⟩ := List.mem_map.1 h
  exact ⟨i, List.mem_range.1 hi, rfl⟩
theorem chsW_apart (b : UInt8) (n : Nat) : Apart (chsW b n) := by
  unfold Apart chsW
  rw [List.pairwise_map]
  refine List.Pairwise.imp ?_ List.nodup_range
  intro a c hne h
  exact hne (keyK_inj h)
theorem chsW_aft (b : UInt8) (n : Nat) : (aft (chsW b n)).length = n := by
  rw [aft_apart (chsW_apart b n), chsW_length]
  intro c hc
  obtain ⟨i, _, rfl⟩ := chsW_mem hc
  rfl
/-- Each value begins with the letter. -/
theorem chsW_val {b : UInt8} {n : Nat} {c : Chg} (h : c ∈ aft (chsW b n)) : ∃ r, c.val = b :: r := by
  obtain ⟨i, _, rfl⟩ := chsW_mem (aft_mem h)
  refine ⟨List.replicate (max 1 (10 * i) - 1) b, ?_⟩
  show List.replicate (max 1 (10 * i)) b = _
  obtain ⟨k, hk⟩ : ∃ k, max 1 (10 * i) = k + 1 := ⟨max 1 (10 * i) - 1, by omega⟩
  rw [hk, List.replicate_succ]
  rfl
theorem ba_snoc (x : List UInt8) (b : UInt8) : ((⟨x.toArray⟩ : ByteArray) ++ (⟨#[b]⟩ : ByteArray)) = ⟨(x ++ [b]).toArray⟩ := by
  apply ByteArray.ext
  simp
set_option maxRecDepth 100000 in
set_option maxHeartbeats 2000000 in
theorem changes_any (n : Nat) (b : UInt8) (w : World) (hn : n ≤ 1000) (hT : Tab w) :
    Calls Tryz.prog 18 #[.int .i64 (n : Int), .string ⟨#[b]⟩] w fun e w' => ∃ v, e = .returned v ∧ Ow LCh w' w.heap.size v (chsW b n) ∧ Below w.heap.size w w' := by
  have HT := Lib.hid hT
  clear hT
  go_enter Tryz.func18, Tryz.ntmps18
  go_wp2
  go_loopg [5, 6, 7] n (fun kx s5 s6 _ wr => ∃ i : Nat, s6 = .int .i64 i ∧ i ≤ n ∧ n - i ≤ kx ∧ Hid (Ow LCh wr w.heap.size s5 (chsW b i)) ∧ Hid (Below w.heap.size w wr))
  case atStart => exact ⟨0, rfl, by omega, by omega, Lib.hid (Ow.nil _ _ _), Lib.hid (Below.refl _ _)⟩
  case round =>
    obtain ⟨i, rfl, hin, hix, HO, HB⟩ := hrel
    by_cases hlt : i < n
    · have hltI : (i : Int) < n := by omega
      go_wp2
      generalize hW : wr = W at *
      clear hW
      go_loopg [7] (10 * i) (fun ky s7 wq => ∃ x : List UInt8, s7 = .string ⟨x.toArray⟩ ∧ Hid (x = List.replicate x.length b) ∧ 1 ≤ x.length ∧ x.length ≤ max 1 (10 * i) ∧ 10 * i - x.length ≤ ky ∧ W = wq)
      case atStart => exact ⟨[b], rfl, Lib.hid rfl, by simp, by simp; omega, by simp, rfl⟩
      case round =>
        obtain ⟨x, rfl, HX, hx1, hx2, hxy, rfl⟩ := hrel
        by_cases hk : x.length < 10 * i
        · have hkI : (x.length : Int) < 10 * (i : Int) := by omega
          have hxl : x.length ≤ 100000 := by omega
          go_wp2
          go_roundg (10 * i - (x.length + 1))
          case measure => omega
          case rel => exact ⟨x ++ [b], by rw [← ba_snoc], Lib.hid (by rw [List.length_append, List.length_singleton, List.replicate_succ', ← HX.out]), by simp, by simp; omega, by simp, rfl⟩
        · have hkI : ¬ (x.length : Int) < 10 * (i : Int) := by omega
          have HX2 : Hid (x = List.replicate (max 1 (10 * i)) b) := Lib.hid (by rw [show max 1 (10 * i) = x.length by omega]; exact HX.out)
          have hnum := num_any' i W (by omega) (HT.out.below HB.out)
          have hdl := dig_length (n := i) (by omega)
          clear HX
          go_wp2_with fail
          refine hnum.mono ?_
          rintro e w3 ⟨rfl, hB3⟩
          have HB3 := Lib.hid (HB.out.trans (hB3.mono HB.out.size))
          have HO3 := Lib.hid (HO.out.below hB3 (Nat.le_refl _))
          obtain ⟨v5, w5, hrun, hO5, _, hB5⟩ := append_ow_one LChat ⟨[107] ++ dig i, x, false⟩ HO3.out (by rw [chsW_length]; omega) HB3.out.size
          have HO5 : Hid (Ow LCh w5 w.heap.size v5 (chsW b (i + 1))) := Lib.hid (by rw [chsW_next]; unfold chgW keyK; rw [← HX2.out]; exact hO5)
          have HB5 := Lib.hid (HB3.out.trans (hB5 w.heap.size HB3.out.size fun j hj => (HO3.out.block j hj).1))
          have hrun' : ∀ ty, (Builtin.append_ #[35, 35] ty #[u5, .slice (some ⟨w3.heap.size, 0, none⟩) 1 1]).run Tryz.prog (w3.alloc (.cells #[.string ⟨([107] ++ dig i).toArray⟩, .string ⟨x.toArray⟩, .bool false] 55)) = .ok v5 w5 := hrun
          generalize dig i = dg at *
          clear hrun hO5 hB5 hnum hB3 HO HB HX2
          go_wp2_with (first | (at_builtin; refine Lib.wpList_append_run _ rfl _ _ _ _ rfl _ _ rfl rfl _ _ (hrun' _) ?_) | go_in)
          go_roundg (n - (i + 1))
          case measure => omega
          case rel => exact ⟨i + 1, by go_num, by omega, Nat.le_refl _, HO5, HB5⟩
    · have hltI : ¬ (i : Int) < n := by omega
      obtain rfl : i = n := by omega
      go_wp2
      go_ret
      exact ⟨_, rfl, HO.out, HB.out⟩
/-- Changes of the statements lie apart from a store and its disk. -/
theorem Jr.apart3 {w : World} {base g f m sb b2 : Nat} {v v2 : Value} {t : St} {l : List Chg} (J : Jr w base g f m sb v t) (h : Ow LCh w b2 v2 l) : ∀ k, v2.ownBlock = some k → k ∉ [g, f, m, sb] := by
  intro k hk
  rcases h.form with ⟨rfl, _⟩ | ⟨k', cap, cs, rfl, _, hb, _⟩
  · cases hk
  · cases hk
    have hb : Blk w k' 55 cs := hb
    simp only [List.mem_cons, List.not_mem_nil, not_or, or_false]
    refine ⟨?_, ?_, ?_, ?_⟩
    · rintro rfl
      obtain ⟨c, h1, _⟩ := J.dk.head
      have := hb.symm.trans h1
      cases this
    · rintro rfl
      obtain ⟨c, h1, _⟩ := J.dk.row
      have := hb.symm.trans h1
      cases this
    · rintro rfl
      obtain ⟨es, clock, h1, _⟩ := J.dk.map
      have := hb.symm.trans h1
      cases this
    · rintro rfl
      have := hb.symm.trans J.st
      cases this
/-- How a Commit of them ends on a store without records, and what a crash leaves. -/
theorem whole_says {t : St} (H : Inv' t) (hr : t.r = []) (hlen : t.s.kept.length = 2000) (b : UInt8) (n : Nat) (hn : n ≤ 20) :
    (((comm t (chsW b n)).1 = .fine ∧ (comm t (chsW b n)).2.s.down = false) ∨ ((comm t (chsW b n)).1 = .crash ∧ (comm t (chsW b n)).2.s.down = true)) ∧
    ∀ zs, ∃ h' r', Inv (crashD (comm t (chsW b n)).2.s zs) h' r' ∧ (r' = aft (chsW b n) ∨ ((comm t (chsW b n)).2.s.down = true ∧ r' = [])) := by
  have h1 : (chsW b n).any badKey = false := List.any_eq_false.2 fun c hc => by
    obtain ⟨i, hi, rfl⟩ := chsW_mem hc
    have := dig_length (n := i) (by omega)
    simp only [badKey, chgW, keyK, Bool.or_eq_true, decide_eq_true_eq, List.length_append, List.length_cons, List.length_nil, not_or]
    omega
  have hv : Vals 200 (chsW b n) := fun c hc => by
    obtain ⟨i, hi, rfl⟩ := chsW_mem hc
    show (List.replicate _ b).length ≤ 200
    rw [List.length_replicate]
    omega
  have h2 : (chsW b n).any badVal = false := List.any_eq_false.2 fun c hc => by
    have hb : badVal c = false := decide_eq_false (by have := hv c hc; omega)
    rw [hb]
    simp
  have he : aft (t.r ++ chsW b n) = aft (chsW b n) := by rw [hr]; rfl
  have D := did_comm H (by omega) (chsW b n)
  rw [he] at D
  have hok := aft_ok' H h1 h2
  rw [he] at hok
  have hvA : Vals 200 (aft (chsW b n)) := fun c hc => hv c (aft_mem hc)
  rcases comm_two H h1 h2 (by rw [he, chsW_aft]; omega) (by rw [he, hlen]; exact vals_room hok hvA (by rw [chsW_aft]; omega) (by omega)) with hf | hf
  · have h3 := (D.fine hf).1
    refine ⟨.inl ⟨hf, h3.down⟩, fun zs => ⟨_, _, inv_crash h3 zs, .inl (D.fine hf).2⟩⟩
  · have h3 := D.crash hf
    refine ⟨.inr ⟨hf, h3.1⟩, fun zs => ?_⟩
    rcases h3.2 zs with h | ⟨h', h⟩
    · exact ⟨_, _, h, .inr ⟨h3.1, hr⟩⟩
    · exact ⟨h', _, h, .inl rfl⟩
end Go.Proofs.YtmpklljiddggpaaGreatDoor
