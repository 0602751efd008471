/-
  The walks of the statements' own helpers over bytes: Bytes, SameBytes. Conditions: each theorem's own premises.
-/
import Derived.Test.YtgombgkfocpacaaDoorDkH
import Derived.Deep.QuietTactic
import Derived.BigQuiet
namespace Go.Proofs.YtgombgkfocpacaaDoor
open Go.RowKit

/-- Where the loop of Bytes stands. -/
def BytesRel (w : World) (l : List UInt8) (v i : Value) (wr : World) : Prop :=
  ∃ (k : Nat) (L : List UInt8) (A : Option Addr) (c : Nat), k ≤ l.length ∧ i = .int .i64 (k : Int) ∧ L = l.take k ∧ v = .slice A L.length c ∧ Own wr w.heap.size A c L ∧ Below w.heap.size w wr
theorem bytesRel_step {w w1 : World} {l L : List UInt8} {k : Nat} {v' : Value} {i : Int} (hk : k < l.length) (hL : L = l.take k) (hB : Below w.heap.size w w1) (hi : i = (k : Int) + 1)
    (ho : w1.ownsRow w.heap.size 5 1 v' (L.length + 1) (L.map byt ++ [.int .u8 (l[k].toNat : Int)])) : BytesRel w l v' (.int .i64 i) w1 := by
  obtain ⟨A, c, rfl, ho'⟩ := own_of_row (news := [l[k]]) rfl ho
  refine ⟨k + 1, L ++ [l[k]], A, c, by omega, by rw [hi]; rfl, ?_, rfl, ho', hB⟩
  rw [hL, List.take_succ_eq_append_getElem hk]
theorem bytesRel_end {w wr : World} {l L : List UInt8} {k : Nat} {A : Option Addr} {c : Nat} (hk : l.length ≤ k) (hL : L = l.take k) (ho : Own wr w.heap.size A c L) (hB : Below w.heap.size w wr) :
    RetBytes w w.heap.size l (.returned (.slice A L.length c)) wr := by
  rw [List.take_of_length_le hk] at hL
  subst hL
  exact ⟨A, _, c, rfl, Lib.hid rfl, ho, hB⟩

set_option maxRecDepth 100000 in
set_option maxHeartbeats 1000000 in
theorem bytes_any (A : Option Addr) (n c : Nat) (l : List UInt8) (w : World) (hn : n = l.length) (hl : n ≤ 4294967296) (hs : Str w w.heap.size A l) :
    Calls Tryd.prog 30 #[.slice A n c] w (RetBytes w w.heap.size l) := by
  obtain ⟨i0, hi, hz0, hz1, hz2⟩ := info_parts Tryd.info8
  have HN := Lib.hid hn
  clear hn
  have HS := Lib.hid hs
  clear hs
  have hll : l.length ≤ 4294967296 := by have := HN.out; omega
  have hzero : (0 : Int) = ((0 : Nat) : Int) := rfl
  clear hzero
  go_enter Tryd.func30, Tryd.ntmps30
  go_wp2_with (at_make; refine wpList_make_own _ rfl _ _ 33 rfl w.heap.size 5 i0 (.int .u8 0) 1 Tryd.underlying33 hi hz0 hz1 .i64 .i64 _ n rfl rfl rfl ?b1 ?b2 (Nat.le_refl _) ?_)
  case b1 => rw [hz2]; omega
  case b2 => unfold maxLen; omega
  intro w1 hown hgr
  have hB1 : Below w.heap.size w w1 := (Below.refl _ _).grown hgr (Nat.le_refl _) (fun k hk => by cases hk)
  go_wp2_with fail
  go_loopw [3, 4] (fun v i wr => BytesRel w l v i wr) (fun _ i _ => n - (intOf i).toNat)
  case atStart => exact ⟨0, [], _, _, Nat.zero_le _, rfl, by simp, rfl, hown, hB1⟩
  case round =>
    clear hown hgr hB1
    obtain ⟨k, L, A', c', hk, rfl, hL, rfl, ho, hB⟩ := hrel
    have hLl : L.length ≤ 4294967296 := by rw [hL]; simp; omega
    have HL := Lib.hid hL
    have hbs : w.heap.size ≤ wr.heap.size := hB.size
    clear hL
    by_cases hlt : k < l.length
    · have hkn : k < n := by have := HN.out; omega
      obtain ⟨ad, hA, hb, hc⟩ := HS.out.pick hlt
      have hc' : wr.cell? (ad.add k) = some (.int .u8 (l[k].toNat : Int)) := (hB.cell (by rw [add_block]; exact hb)).trans hc
      obtain ⟨u, hu⟩ : ∃ u, u = l[k] := ⟨_, rfl⟩
      rw [← hu] at hc'
      have HU := Lib.hid hu
      clear hc hu
      subst hA
      go_wp2_with (at_builtin; refine wpList_append_own _ rfl _ _ 33 rfl w.heap.size 5 i0 (.int .u8 0) 1 1 Tryd.underlying33 hi hz0 hz1 hz2 rfl (by decide) _ _ _ rfl (ho.alloc _) ⟨wr.heap.size, 0, none⟩ 1 1 [.int .u8 (u.toNat : Int)] rfl rfl ?c1 ?c2 ?c3 ?c4 ?c5 ?_)
      case c1 =>
        intro j v hj
        match j, hj with
        | 0, hj => simp at hj; subst hj; simp [Addr.add]
      case c2 => intro v hv; simp at hv; subst hv; rfl
      case c3 => unfold maxLen; omega
      case c4 => omega
      case c5 => simp; omega
      intro v' w2 hown' hgrow _
      have hB1 : Below w.heap.size w w2 := ((hB.alloc hbs _).grown hgrow (by simp; omega) (fun k hk => (Own.block ho k hk).1))
      have R := bytesRel_step hlt HL.out hB1 rfl (by rw [← HU.out]; exact hown')
      clear hown' hgrow
      go_wp2
      go_roundw
      case rel => exact R
      case measure => simp [intOf]; omega
    · have hkn : ¬ k < n := by have := HN.out; omega
      go_wp2
      go_ret
      exact bytesRel_end (by omega) HL.out ho hB

/-- Are two lists of bytes the same? -/
def sameB (a b : List UInt8) : Bool := decide (a = b)
def RetQ (w : World) (v : Value) (e : Ending) (w' : World) : Prop := e = .returned v ∧ ∃ m, w' = w.drewN m
/-- Where the loop of SameBytes stands. -/
def SameRel (w : World) (a b : List UInt8) (i : Value) (wr : World) : Prop := ∃ k : Nat, k ≤ a.length ∧ i = .int .i64 (k : Int) ∧ a.take k = b.take k ∧ ∃ m, wr = w.drewN m

theorem sameRel_step {a b : List UInt8} {k : Nat} (ha : k < a.length) (hb : k < b.length) (he : a.take k = b.take k) (h : a[k] = b[k]) : a.take (k + 1) = b.take (k + 1) := by
  rw [List.take_succ_eq_append_getElem ha, List.take_succ_eq_append_getElem hb, he, h]

set_option maxRecDepth 100000 in
set_option maxHeartbeats 1000000 in
theorem same_some (a1 a2 : Addr) (n1 n2 c1 c2 : Nat) (l1 l2 : List UInt8) (w : World) (hn1 : n1 = l1.length) (hn2 : n2 = l2.length) (hl : n1 ≤ 4294967296) (hnn : n1 = n2)
    (hs1 : ∀ j u, l1[j]? = some u → w.cell? (a1.add j) = some (.int .u8 (u.toNat : Int))) (hs2 : ∀ j u, l2[j]? = some u → w.cell? (a2.add j) = some (.int .u8 (u.toNat : Int))) :
    Calls Tryd.prog 28 #[.slice (some a1) n1 c1, .slice (some a2) n2 c2] w (RetQ w (.bool (sameB l1 l2))) := by
  subst hnn
  have H1 := Lib.hid hn1
  have H2 := Lib.hid hn2
  have HS1 := Lib.hid hs1
  have HS2 := Lib.hid hs2
  clear hn1 hn2 hs1 hs2
  go_enter Tryd.func28, Tryd.ntmps28
  go_wp2_with fail
  go_loopw [5] (fun i wr => SameRel w l1 l2 i wr) (fun i _ => n1 - (intOf i).toNat)
  case atStart => exact ⟨0, Nat.zero_le _, rfl, rfl, 0, rfl⟩
  case round =>
    obtain ⟨k, hk, rfl, he, m, rfl⟩ := hrel
    have HE := Lib.hid he
    clear he
    by_cases hlt : k < n1
    · have g1 : k < l1.length := by have := H1.out; omega
      have g2 : k < l2.length := by have := H2.out; omega
      have hc1 := HS1.out k l1[k] (List.getElem?_eq_getElem g1)
      have hc2 := HS2.out k l2[k] (List.getElem?_eq_getElem g2)
      obtain ⟨u1, hu1⟩ : ∃ u, u = l1[k] := ⟨_, rfl⟩
      obtain ⟨u2, hu2⟩ : ∃ u, u = l2[k] := ⟨_, rfl⟩
      rw [← hu1] at hc1
      rw [← hu2] at hc2
      have HU1 := Lib.hid hu1
      have HU2 := Lib.hid hu2
      clear hu1 hu2
      by_cases hq : u1 = u2
      · have hb : ((u1.toNat : Int) == (u2.toNat : Int)) = true := by rw [hq]; simp
        have HQ := Lib.hid hq
        clear hq
        go_wp2_with fail
        go_quiet (fail)
        go_wp2
        go_roundw
        case rel => exact ⟨k + 1, by omega, by go_num, sameRel_step g1 g2 HE.out (by rw [← HU1.out, ← HU2.out]; exact HQ.out), _, rfl⟩
        case measure => simp [intOf]; omega
      · have hb : ((u1.toNat : Int) == (u2.toNat : Int)) = false := by
          rw [beq_eq_false_iff_ne]; intro h; exact hq (UInt8.toNat_inj.1 (by omega))
        have HQ := Lib.hid hq
        clear hq
        go_wp2_with fail
        go_quiet (fail)
        go_wp2
        go_ret
        have hf : sameB l1 l2 = false := by
          unfold sameB
          refine decide_eq_false fun e => HQ.out ?_
          rw [HU1.out, HU2.out]
          subst e
          rfl
        rw [hf]
        exact ⟨rfl, _, rfl⟩
    · have ht : sameB l1 l2 = true := by
        unfold sameB
        refine decide_eq_true ?_
        have h1 := H1.out; have h2 := H2.out
        have := HE.out
        rwa [List.take_of_length_le (by omega), List.take_of_length_le (by omega)] at this
      have HT := Lib.hid ht
      clear ht
      go_wp2
      go_ret
      rw [HT.out]
      exact ⟨rfl, m, rfl⟩
set_option maxHeartbeats 1000000 in
theorem same_nil (A1 A2 : Option Addr) (c1 c2 : Nat) (w : World) :
    Calls Tryd.prog 28 #[.slice A1 0 c1, .slice A2 0 c2] w (RetQ w (.bool true)) := by
  go_enter Tryd.func28, Tryd.ntmps28
  go_wp2_with fail
  refine wp_loop_rounds 1 ?_
  rw [rounds_succ]
  go_wp2
  go_ret
  exact ⟨rfl, 0, rfl⟩
set_option maxHeartbeats 1000000 in
theorem same_len (A1 A2 : Option Addr) (n1 n2 c1 c2 : Nat) (w : World) (h : n1 ≠ n2) :
    Calls Tryd.prog 28 #[.slice A1 n1 c1, .slice A2 n2 c2] w (RetQ w (.bool false)) := by
  have hb : ((n1 : Int) != (n2 : Int)) = true := by rw [bne_iff_ne]; omega
  have hb2 : ((n1 : Int) == (n2 : Int)) = false := by rw [beq_eq_false_iff_ne]; omega
  clear h
  go_enter Tryd.func28, Tryd.ntmps28
  go_wp2
  go_ret
  exact ⟨rfl, 0, rfl⟩
theorem same_any (A1 A2 : Option Addr) (n1 n2 c1 c2 : Nat) (l1 l2 : List UInt8) (w : World) (B1 B2 : Nat) (hn1 : n1 = l1.length) (hn2 : n2 = l2.length) (hl : n1 ≤ 4294967296) (hs1 : Str w B1 A1 l1) (hs2 : Str w B2 A2 l2) :
    Calls Tryd.prog 28 #[.slice A1 n1 c1, .slice A2 n2 c2] w (RetQ w (.bool (sameB l1 l2))) := by
  by_cases hnn : n1 = n2
  · by_cases h0 : l1 = []
    · subst h0
      have h2 : l2 = [] := List.eq_nil_of_length_eq_zero (by rw [← hn2, ← hnn, hn1]; rfl)
      subst h2
      subst hn1
      subst hn2
      exact same_nil A1 A2 c1 c2 w
    · obtain ⟨a1, rfl, _, h1⟩ := hs1.here h0
      obtain ⟨a2, rfl, _, h2⟩ := hs2.here (by rintro rfl; apply h0; apply List.eq_nil_of_length_eq_zero; rw [← hn1, hnn, hn2]; rfl)
      exact same_some a1 a2 n1 n2 c1 c2 l1 l2 w hn1 hn2 hl hnn h1 h2
  · have hf : sameB l1 l2 = false := decide_eq_false fun e => hnn (by rw [hn1, hn2, e])
    rw [hf]
    exact same_len A1 A2 n1 n2 c1 c2 w hnn
end Go.Proofs.YtgombgkfocpacaaDoor
