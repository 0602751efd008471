/-
  The walks of the printer's decl and of list over declarations. Conditions: each theorem's own premises.
-/
import Derived.Test.YtpfehddkaapjiaaDoorQSwE
namespace Go.Proofs.YtpfehddkaapjiaaDoor
open Go.RowKit Go.Lib Go.Shelf
attribute [local go_sem] Oper.semAt_some

/-- How clocks lie in a row. -/
def LC : Lie (List UInt8 × Bool) := ⟨44, 2, fun k => [.string ⟨k.1.toArray⟩, .bool k.2], fun _ => rfl, fun _ u hu => by
  simp at hu
  rcases hu with rfl | rfl <;> rfl⟩
/-- A declaration, and where its clocks lie. -/
structure Dc where
  pos : Int
  name : List UInt8
  type : Int
  A : Option Addr
  c : Nat
  cks : List (List UInt8 × Bool)
def Dc.vals (d : Dc) : List Value := [.int .i64 d.pos, .string ⟨d.name.toArray⟩, .int .i64 d.type, .slice d.A d.cks.length d.c]
def Dc.val (d : Dc) : Value := .agg #[.int .i64 d.pos, .string ⟨d.name.toArray⟩, .int .i64 d.type, .slice d.A d.cks.length d.c]
/-- How declarations lie in a row. -/
def LD : Lie Dc := ⟨26, 4, Dc.vals, fun _ => rfl, fun _ u hu => by
  simp [Dc.vals] at hu
  rcases hu with rfl | rfl | rfl | rfl <;> rfl⟩
/-- A slice in memory, in blocks of a kind, whatever the elements. -/
structure Sl {α : Type} (L : Lie α) (W : World) (K : Nat → Prop) (A : Option Addr) (c : Nat) (l : List α) : Prop where
  hd : Hd K A l.length c
  row : RowAt W A (L.cells l)
section
variable {α : Type} {L : Lie α} {W W' : World} {K K' : Nat → Prop} {A : Option Addr} {c : Nat} {l : List α}
theorem Sl.keep (h : Sl L W K A c l) (hK : ∀ b, K b → K' b) (hk : ∀ p : Addr, K p.block → W'.cell? p = W.cell? p) : Sl L W' K' A c l :=
  ⟨h.hd.mono hK, fun b o e j u hu => by
    have hl : l.length ≠ 0 := by
      intro h0
      rw [List.eq_nil_of_length_eq_zero h0] at hu
      simp [Lie.cells] at hu
    obtain ⟨b', o', e', hb⟩ := h.hd.at_ hl
    rw [e] at e'
    cases e'
    exact (hk _ hb).trans (h.row b o e j u hu)⟩
theorem Sl.below {B : Nat} (h : Sl L W (· < B) A c l) (hB : Below B W W') : Sl L W' (· < B) A c l := h.keep (fun _ h => h) fun _ hp => hB.cell hp
theorem Sl.nil (L : Lie α) (W : World) (K : Nat → Prop) : Sl L W K none 0 [] := ⟨⟨Nat.le_refl _, fun _ => rfl, fun h => absurd rfl h, by simp [maxLen]⟩, (fun _ _ h => by cases h)⟩
theorem Sl.at_ {b o : Nat} (h : Sl L W K (some ⟨b, o, none⟩) c l) {k : Nat} (hk : k < l.length) (j : Nat) (u : Value) (hj : j < L.n) (hu : (L.enc l[k])[j]? = some u) : W.cell? ⟨b, o + k * L.n + j, none⟩ = some u := by
  have h1 := h.row b o rfl (k * L.n + j) u (by rw [← hu]; exact L.cells_at l k hk j hj)
  rw [← Nat.add_assoc] at h1
  exact h1
end
/-- Declarations in memory. -/
structure Dl (W : World) (K : Nat → Prop) (A : Option Addr) (c : Nat) (l : List Dc) : Prop where
  sl : Sl LD W K A c l
  all : ∀ d ∈ l, Sl LC W K d.A d.c d.cks
theorem Dl.below {W W' : World} {B : Nat} {A : Option Addr} {c : Nat} {l : List Dc} (h : Dl W (· < B) A c l) (hB : Below B W W') : Dl W' (· < B) A c l := ⟨h.sl.below hB, fun d hd => (h.all d hd).below hB⟩

/-- A type's text. -/
def tyT (t : Int) : List UInt8 := if t = 1 then [105, 110, 116] else if t = 2 then [98, 111, 111, 108] else []
/-- A declaration's text. -/
def Dc.shw (d : Dc) : List UInt8 := d.name ++ ([58, 32] ++ tyT d.type) ++ (d.cks.map fun k => clkT k.1 k.2).flatten
theorem tyT_len (t : Int) : (tyT t).length ≤ 4 := by
  unfold tyT
  split
  · simp
  · split <;> simp
set_option maxHeartbeats 400000 in
theorem typeName_any (t : Int) (w : World) : Calls Tryd.prog 109 #[.int .i64 t] w fun e w' => e = .returned (.string ⟨(tyT t).toArray⟩) ∧ w' = w := by
  by_cases h1 : t = 1
  · subst h1
    go_enter Tryd.func109, Tryd.ntmps109
    go_wp2
    go_ret
    exact ⟨rfl, rfl⟩
  by_cases h2 : t = 2
  · subst h2
    go_enter Tryd.func109, Tryd.ntmps109
    go_wp2
    go_ret
    exact ⟨rfl, rfl⟩
  have H : Hid (tyT t = []) := Lib.hid (by unfold tyT; rw [if_neg h1, if_neg h2])
  have q1 : (t == 1) = false := by simp [h1]
  have q2 : (t == 2) = false := by simp [h2]
  clear h1 h2
  go_enter Tryd.func109, Tryd.ntmps109
  go_wp2
  go_ret
  exact ⟨by rw [H.out]; rfl, rfl⟩
theorem Wr.ofDrew {b : Nat} {l : List UInt8} {w w' : World} (h : Wr b l w.drew w') : Wr b l w w' := ⟨h.pr, ((Below.refl b w).drew).trans h.bel, fun k o hk hb ho => h.oth k o hk hb ho⟩
theorem clks_take (l : List (List UInt8 × Bool)) (j : Nat) (hj : j < l.length) : ((l.take (j + 1)).map fun k => clkT k.1 k.2).flatten = ((l.take j).map fun k => clkT k.1 k.2).flatten ++ clkT l[j].1 l[j].2 := by
  rw [List.take_succ_eq_append_getElem hj, List.map_append, List.flatten_append]
  simp
theorem clks_le (l : List (List UInt8 × Bool)) (j : Nat) : (((l.take j).map fun k => clkT k.1 k.2).flatten).length ≤ ((l.map fun k => clkT k.1 k.2).flatten).length := by
  have h : (l.map fun k => clkT k.1 k.2).flatten = ((l.take j).map fun k => clkT k.1 k.2).flatten ++ ((l.drop j).map fun k => clkT k.1 k.2).flatten := by rw [← List.flatten_append, ← List.map_append, List.take_append_drop]
  rw [h, List.length_append]
  omega

set_option maxRecDepth 100000 in
set_option maxHeartbeats 1000000 in
theorem decl_any (b : Nat) (acc : List UInt8) (d : Dc) (w : World) (h : PrA b acc w) (hc : Sl LC w (· < b) d.A d.c d.cks) (hlen : acc.length + d.shw.length ≤ 140737488355328) :
    Calls Tryd.prog 70 #[.pointer (some ⟨b, 0, none⟩), d.val] w fun r w' => r = .returned (.tuple #[]) ∧ Wr b (acc ++ d.shw) w w' := by
  obtain ⟨pos, name, type, A, c, cks⟩ := d
  obtain ⟨len, hln⟩ : ∃ len, len = cks.length := ⟨_, rfl⟩
  dsimp only at hc
  unfold Dc.val
  dsimp only
  rw [← hln]
  obtain ⟨W1, hW1⟩ : ∃ W1, W1 = w.alloc (.cells #[.int .i64 pos, .string ⟨name.toArray⟩, .int .i64 type, .slice A len c] 26) := ⟨_, rfl⟩
  have hWr1 : Wr b acc w W1 := by rw [hW1]; exact Wr.ofAlloc h _
  have hb1 : Blk W1 w.heap.size 26 #[.int .i64 pos, .string ⟨name.toArray⟩, .int .i64 type, .slice A len c] := by rw [hW1]; exact heap_alloc_new w _
  have hbw := h.lt
  have hl : acc.length + (name.length + (2 + (tyT type).length)) + ((cks.map fun k => clkT k.1 k.2).flatten).length ≤ 140737488355328 := by
    simp only [Dc.shw, List.length_append, List.length_cons, List.length_nil] at hlen
    omega
  have hz1 : W1.heap.size = w.heap.size + 1 := by rw [hW1]; simp
  have HP : Hid (Calls Tryd.prog 106 #[.pointer (some ⟨b, 0, none⟩), .slice (some ⟨w.heap.size + 1, 0, none⟩) 3 3] (W1.alloc (.cells #[.string ⟨name.toArray⟩, .string { data := #[58, 32] }, .string ⟨(tyT type).toArray⟩] 9)).drew fun e w' => e = .returned (.tuple #[]) ∧ Wr b (acc ++ (name ++ ([58, 32] ++ tyT type))) W1.drew w') :=
    Lib.hid (put3 b (w.heap.size + 1) acc name [58, 32] (tyT type) W1.drew hz1 hWr1.pr.drew (by simp only [List.length_cons, List.length_nil]; omega))
  have HTy := Lib.hid (fun W => typeName_any type W)
  have HW1 := Lib.hid hWr1
  have Hb1 := Lib.hid hb1
  have HC := Lib.hid (hc.below hWr1.bel)
  have HLe := Lib.hid hl
  have HS : Hid (Dc.shw ⟨pos, name, type, A, c, cks⟩ = name ++ ([58, 32] ++ tyT type) ++ (cks.map fun k => clkT k.1 k.2).flatten) := Lib.hid rfl
  have HL := Lib.hid hln
  have k0 := hb1.cell 0
  have k1 := hb1.cell 1
  have k2 := hb1.cell 2
  have k3 := hb1.cell 3
  have hlc : len ≤ c := by rw [hln]; exact hc.hd.le
  have hcm : c ≤ 9223372036854775807 := by have := hc.hd.big; simpa [maxLen] using this
  obtain ⟨mid, hmid⟩ : ∃ mid, mid = acc ++ (name ++ ([58, 32] ++ tyT type)) := ⟨_, rfl⟩
  have Hmid := Lib.hid hmid
  have hml : mid.length = acc.length + (name.length + (2 + (tyT type).length)) := by rw [hmid]; simp; omega
  rw [← hmid] at HP
  rw [← hml] at HLe
  clear h hc hlen hWr1 hb1 hl hz1 hln hmid hml
  subst hW1
  go_enter Tryd.func70, Tryd.ntmps70
  go_wp2_with fail
  go_region_held3 (fun W => W.cell? ⟨w.heap.size, 1, none⟩ = some (.string ⟨name.toArray⟩) ∧ W.cell? ⟨w.heap.size, 2, none⟩ = some (.int .i64 type)) (go_keep)
    (first | (go_at_call 109; refine (HTy.out _).mono ?_; rintro e w' ⟨rfl, rfl⟩) | (go_at_call 106; refine HP.out.mono ?_; rintro e w2 ⟨rfl, h2⟩; have hb2 := h2.blk (w := (w.alloc (.cells #[.int .i64 pos, .string ⟨name.toArray⟩, .int .i64 type, .slice A len c] 26)).drew) Hb1.out (by omega) (by decide); have m1 := hb2.cell 1; have m2 := hb2.cell 2; have m3 := hb2.cell 3))
  have HB2 : Hid (Below b (w.alloc (.cells #[.int .i64 pos, .string ⟨name.toArray⟩, .int .i64 type, .slice A len c] 26)) w2) := Lib.hid h2.ofDrew.bel
  have HW2 : Hid (Wr b mid w w2) := Lib.hid (HW1.out.trans h2.ofDrew)
  have HC2 := Lib.hid (HC.out.below HB2.out)
  clear h2 hb2 HP HTy HC k0 k1 k2 k3 m1 m2
  go_wp2_with fail
  go_loopw [17] (fun i wr => ∃ j : Nat, j ≤ len ∧ i = .int .i64 (j : Int) ∧ Wr b (mid ++ ((cks.take j).map fun k => clkT k.1 k.2).flatten) w2 wr) (fun i _ => len - (RowKit.intOf i).toNat)
  case atStart => exact ⟨0, Nat.zero_le _, rfl, by simpa using HW2.out.pr.refl⟩
  case round =>
    obtain ⟨j, hj, rfl, hW⟩ := hrel
    by_cases hp : j < len
    · have hjl : j < cks.length := by rw [← HL.out]; exact hp
      have hcl := HC2.out.below hW.bel
      obtain ⟨bb, oo, rfl, hbb⟩ := hcl.hd.at_ (by omega)
      have c0 : wr.cell? ⟨bb, oo + j * 2, none⟩ = some (.string ⟨cks[j].1.toArray⟩) := hcl.at_ hjl 0 _ (by decide) rfl
      have c1 : wr.cell? ⟨bb, oo + j * 2 + 1, none⟩ = some (.bool cks[j].2) := hcl.at_ hjl 1 _ (by decide) rfl
      have hT := clks_take cks j hjl
      have hle := clks_le cks (j + 1)
      rw [hT] at hle
      obtain ⟨ck, hck⟩ : ∃ ck, ck = cks[j] := ⟨_, rfl⟩
      rw [← hck] at c0 c1 hT hle
      obtain ⟨cn, co⟩ := ck
      dsimp only at c0 c1 hT hle
      have HWr := Lib.hid hW
      have HX := Lib.hid (clock_any b _ cn co (wr.alloc (.cells #[.string ⟨cn.toArray⟩, .bool co] 44)) (hW.pr.alloc _) (by have := HLe.out; simp only [List.length_append] at hle ⊢; omega))
      have HT := Lib.hid hT
      clear hcl hT hle hck hW hbb
      go_wp2_with fail
      refine HX.out.mono ?_
      rintro e w3 ⟨rfl, h3⟩
      have HWn := Lib.hid (HWr.out.trans ((Wr.ofAlloc HWr.out.pr _).trans h3))
      clear h3 HX
      go_wp2
      go_roundw
      case rel => exact ⟨j + 1, by omega, by go_num, by rw [HT.out, ← List.append_assoc]; exact HWn.out⟩
      case measure => simp [RowKit.intOf]; omega
    · obtain rfl : j = len := by omega
      have HWn := Lib.hid (HW2.out.trans hW)
      rw [HL.out, List.take_length, Hmid.out] at HWn
      clear hW
      go_wp2
      go_end0
      exact ⟨rfl, by rw [HS.out, ← List.append_assoc]; exact HWn.out⟩
end Go.Proofs.YtpfehddkaapjiaaDoor
