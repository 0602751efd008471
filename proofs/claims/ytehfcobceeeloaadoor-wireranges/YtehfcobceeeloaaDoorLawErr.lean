/-
  Reading that fails, and how the statements see the error; bytes appended that came in. Conditions: each theorem's own premises.
-/
import Derived.Test.YtehfcobceeeloaaDoorSeq
import Derived.Test.YtehfcobceeeloaaDoorSee2
import Derived.Laws.AppendOwnNone
namespace Go.Proofs.YtehfcobceeeloaaDoor
open Go.RowKit

theorem append_str {ops : Array Oper} {rest : List Oper} {o : Oper} {a : Act} {w : World} {Q : Exit → Act → World → Prop} (hgd : o.guard = none) (s x : Operand)
    (ho : o.op = .call { callee := .builtin .append, args := #[s, x], argTypes := #[22, 22] })
    (base : Nat) (v : Value) (n : Nat) (xs : List Value) (hs : a.eval s = v) (hown : w.ownsRow base 5 1 v n xs) (A : Option Addr) (m c B : Nat) (l : List UInt8) (hx : a.eval x = .slice A m c) (hl : Str w B A l) (hm : m = l.length) (hz : A = none → c = 0)
    (hnm : n + m ≤ 4294967296) (hbase : base ≤ w.heap.size)
    (h : ∀ v' w', w'.ownsRow base 5 1 v' (n + m) (xs ++ l.map byt) → w.grownBy w' v.ownBlock → wpList Tryd.prog ops Q rest (a.put o.dst v') w') : wpList Tryd.prog ops Q (o :: rest) a w := by
  obtain ⟨i0, hi, hz0, hz1, hz2⟩ := info_parts Tryd.info8
  rcases A with _ | ad
  · have hl0 : l = [] := by
      rcases l with _ | ⟨u, l⟩
      · rfl
      · obtain ⟨ad, h, _⟩ := hl.here (by simp)
        cases h
    subst hl0
    subst hm
    rw [hz rfl] at hx
    refine wpList_append_own_none hgd s x 22 ho base 5 i0 1 Tryd.underlying22 hi v n xs hs hown hx ?_
    exact h v w (by simpa using hown) (World.grownBy.refl w _)
  · refine wpList_append_own w hgd s x 22 ho base 5 i0 (.int .u8 0) 1 1 Tryd.underlying22 hi hz0 hz1 hz2 rfl (by decide) v n xs hs hown ad m c (l.map byt) hx (by simp [hm]) ?_ (byt_one l) (by unfold maxLen; omega) (by omega) hbase (fun v' w' h1 h2 _ => h v' w' h1 h2)
    intro j u hu
    rw [List.getElem?_map] at hu
    obtain ⟨y, hy, rfl⟩ := Option.map_eq_some_iff.1 hu
    obtain ⟨ad', e, _, hc⟩ := hl.here (by rintro rfl; simp at hy)
    cases e
    exact hc j y hy

/-- What reading leaves, where it fails. -/
def RetFail (w : World) (g : Nat) (l : List UInt8) (k : Nat) (v er : Value) (e : Ending) (w' : World) : Prop :=
  e = .returned v ∧ w.grownBy w' (some g) ∧ ∃ a, w.heap.size ≤ a ∧ Blk w' a 68 #[.int .i64 (k : Int), er] ∧ Rd w' g l k (.iface 66 (.pointer (some ⟨a, 0, none⟩)))
theorem num_fail (g : Nat) (l : List UInt8) (k c : Nat) (lo hi : Int) (w : World) (aE aS aR : Addr) (hr : Rd w g l k .nilIface) (he : Errs w aE aS aR) (hc : c ≠ 0) (h : numOf (l.drop k) lo hi = ⟨c, 0, 0⟩) :
    Calls Tryd.prog 17 #[.pointer (some ⟨g, 0, none⟩), .int .i64 lo, .int .i64 hi] w (RetFail w g l k (.int .i64 0) (errOf aE aS aR c)) := by
  have hn := num_ok g l k lo hi w aE aS aR hr he
  rw [h] at hn
  refine hn.mono fun e w' ⟨he, hg, hx⟩ => ⟨he, hg, ?_⟩
  rcases hx with ⟨h0, _⟩ | ⟨_, hx⟩
  · exact absurd h0 hc
  · exact hx
theorem text_fail (g : Nat) (l : List UInt8) (k c : Nat) (m : Int) (w : World) (aE aS aR : Addr) (hr : Rd w g l k .nilIface) (he : Errs w aE aS aR) (hm : m ≤ 4294967296) (hc : c ≠ 0) (h : textOf (l.drop k) m = ⟨c, [], 0⟩) :
    Calls Tryd.prog 18 #[.pointer (some ⟨g, 0, none⟩), .int .i64 m] w (RetFail w g l k (.string ⟨#[]⟩) (errOf aE aS aR c)) := by
  have hn := text_ok g l k m w aE aS aR hr he hm
  rw [h] at hn
  refine hn.mono fun e w' ⟨he, hg, hx⟩ => ⟨he, hg, ?_⟩
  rcases hx with ⟨h0, _⟩ | ⟨_, hx⟩
  · exact absurd h0 hc
  · exact hx
theorem same_at (w : World) (ads : List Addr) (m b : Nat) (a : Addr) (pos : Int) (h : Sents w ads) (ha : ads[m]? = some a) (hb : Blk w b 68 #[.int .i64 pos, .iface 76 (.pointer (some a))]) :
    Calls Tryd.prog 21 #[.iface 66 (.pointer (some ⟨b, 0, none⟩)), fault (101 + (m : Int)) true false pos 0] w (RetB w (.bool true)) :=
  same_fault w _ _ _ _ fun _ hB => fault_placed _ ads m b a pos (h.later hB) ha (hb.below hB hb.lt)
/-- The same, the code and the place as they stand at the call. -/
theorem same_at' (w : World) (ads : List Addr) (m b : Nat) (a : Addr) (c pos p : Int) (h : Sents w ads) (ha : ads[m]? = some a) (hb : Blk w b 68 #[.int .i64 pos, .iface 76 (.pointer (some a))]) (hc : c = 101 + (m : Int)) (hp : p = pos) :
    Calls Tryd.prog 21 #[.iface 66 (.pointer (some ⟨b, 0, none⟩)), fault c true false p 0] w (RetB w (.bool true)) := by
  subst hc; subst hp; exact same_at w ads m b a _ h ha hb
theorem Sents.errs {w : World} {ads : List Addr} (h : Sents w ads) : Errs w (ads.getD 0 default) (ads.getD 1 default) (ads.getD 3 default) :=
  ⟨cellOf h 0 _ rfl, cellOf h 1 _ rfl, cellOf h 3 _ rfl⟩
theorem Sents.pick {w : World} {ads : List Addr} (h : Sents w ads) (i : Nat) (hi : i < 21) : ads[i]? = some (ads.getD i default) := by
  have hl : i < ads.length := by rw [h.len]; exact hi
  simp [List.getD, List.getElem?_eq_getElem hl]

set_option maxHeartbeats 400000 in
theorem bool_zero (g : Nat) (l rest : List UInt8) (k k' : Nat) (w : World) (aE aS aR : Addr) (hr : Rd w g l k .nilIface) (he : Errs w aE aS aR) (hl : l.drop k = enc 0 ++ rest) (hk : k' = k + (enc 0).length) :
    Calls Tryd.prog 24 #[.pointer (some ⟨g, 0, none⟩)] w (RetRead w g l k' (.bool false)) := by
  have H := Lib.hid (num_read g l rest k k' 0 0 1 w aE aS aR hr he hl hk (by omega) (by omega) (by omega) (by omega))
  clear hr he hl hk
  go_enter Tryd.func24, Tryd.ntmps24
  go_wp2_with fail
  refine H.out.mono ?_
  rintro e w1 ⟨rfl, hG, hR⟩
  go_wp2
  go_ret
  exact ⟨rfl, hG, hR⟩
set_option maxHeartbeats 400000 in
theorem bool_bad (g : Nat) (l : List UInt8) (k : Nat) (w : World) (T : TypeId) (a : Addr) (hr : Rd w g l k (.iface T (.pointer (some a)))) :
    Calls Tryd.prog 24 #[.pointer (some ⟨g, 0, none⟩)] w fun e w' => e = .returned (.bool false) ∧ w = w' := by
  have H := Lib.hid (num_bad g l k 0 1 w T a hr)
  clear hr
  go_enter Tryd.func24, Tryd.ntmps24
  go_wp2_with fail
  refine H.out.mono ?_
  rintro e w1 ⟨rfl, rfl⟩
  go_wp2
  go_ret
  exact ⟨rfl, rfl⟩
end Go.Proofs.YtehfcobceeeloaaDoor
