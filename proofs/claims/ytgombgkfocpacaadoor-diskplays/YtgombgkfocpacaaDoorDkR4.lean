/-
  The document's disk: the walk of Write. Conditions: each theorem's own premises.
-/
import Derived.Test.YtgombgkfocpacaaDoorDkR3
namespace Go.Proofs.YtgombgkfocpacaaDoor
open Go.RowKit Go.Maps

theorem OkP.ok_len {n : Nat} {bs : List BV} (h : OkP n (pairsB bs)) (hn : n ≤ 16384) : bs.length ≤ 16384 := by
  have := h.length
  simp [pairsB] at this
  omega
theorem StrX.of_own {w w0 : World} {X : List Nat} {c : Nat} {A : Option Addr} {l : List UInt8} (h : Own w w0.heap.size A c l) (hX : ∀ x ∈ X, x < w0.heap.size) : StrX w X A l :=
  h.str.strX fun ad e _ hx => by
    rcases h.form with ⟨rfl, _⟩ | ⟨g, rfl, hg, _⟩
    · cases e
    · cases e
      have h1 : g < w0.heap.size := hX g hx
      omega

/-- What Write leaves where it does well. -/
def RetRW (X : List Nat) (g : Nat) (r : RS) (p : Pend) (w : World) (e : Ending) (w' : World) : Prop :=
  e = .returned (.int .i64 0) ∧ ∃ bs, pairsB bs = p ∧ Rf w' X g { r with pend := bs, calls := r.calls + 1, fuse := rpowF r.fuse r.down, down := false } ∧ Fr [g] w w'
set_option maxRecDepth 100000 in
set_option maxHeartbeats 1000000 in
theorem rwrite_ok (X : List Nat) (g : Nat) (r : RS) (i : Int) (B : Nat) (A : Option Addr) (n c : Nat) (l : List UInt8) (w : World) (hR : Rf w X g r) (hg : g ∈ X) (hX : ∀ x ∈ X, x < w.heap.size) (hp : powN r.fuse r.down = false) (hf : 0 ≤ r.fuse ∧ r.fuse ≤ 9223372036854775807)
    (hi : 0 ≤ i ∧ i < (r.n : Int)) (hn : n = l.length) (hl : n ≤ 128) (hs : Str w B A l) (hB : B ≤ w.heap.size) (hsA : ∀ ad, A = some ad → ad.block < B → ad.block ≠ g) (hok : OkP r.n (pairsB r.pend)) (hnm : r.n ≤ 16384) (hc : 0 ≤ r.calls ∧ r.calls < 4611686018427387904) :
    Calls Tryd.prog 16 #[.pointer (some ⟨g, 0, none⟩), .int .i64 i, .slice A n c] w (RetRW X g r (insP i l (pairsB r.pend)) w) := by
  obtain ⟨Ak, ck, Ap, cp, hH, hBk, hBp⟩ := hR
  have HH := Lib.hid hH
  have HBk := Lib.hid hBk
  have HBp := Lib.hid hBp
  have HX := Lib.hid hX
  have HP := Lib.hid hp
  have HF := Lib.hid hf
  have HN := Lib.hid hn
  have HS := Lib.hid hs
  have HSA := Lib.hid hsA
  have HOk := Lib.hid hok
  have HG := Lib.hid hg
  clear hH hBk hBp hX hp hf hn hs hok hg hsA
  have i1 : ¬ i < 0 := by omega
  have i2 : ¬ (r.n : Int) ≤ i := by omega
  have i3 : ¬ (128 : Int) < n := by omega
  generalize hP : insP i l (pairsB r.pend) = P
  have HPe := Lib.hid hP
  clear hP
  go_enter Tryd.func16, Tryd.ntmps16
  go_wp2_with fail
  refine (rpower_head g r.n _ _ _ _ _ _ _ _ _ w HH.out HF.out).mono ?_
  rintro e w1 ⟨rfl, hH1, hF1⟩
  rw [HP.out] at hH1 ⊢
  have hK1 : Kp X w w1.drew := Kp.of_fr (hF1.drew 1) (by simp; exact .inl HG.out)
  have c0 : w1.cell? ⟨g, 0, none⟩ = some (.int .i64 (r.n : Int)) := Blk.cell hH1 0
  have c3 : w1.cell? ⟨g, 3, none⟩ = some (.slice Ap r.pend.length cp) := Blk.cell hH1 3
  have HH1 : Hid (RHead w1.drew g r.n r.calls Ak r.kept.length ck Ap r.pend.length cp (rpowF r.fuse r.down) false) := Lib.hid hH1
  have HF1 := Lib.hid hF1
  have HK1 := Lib.hid hK1
  have HBy := Lib.hid (bytes_any A n c l w1.drew HN.out (by omega) ((HS.out.fr' (hF1.drew 1) hB (by simpa using HSA.out)).more (Nat.le_trans hB hF1.size)))
  clear hH1 hF1 hK1
  go_wp2_with fail
  go_region_with
    (first
      | (go_at_call 30; refine HBy.out.mono ?_; rintro e w2 ⟨A2, n2, c2, rfl, HN2, hO2, hB2⟩; obtain rfl : n2 = l.length := HN2.out; have HO2 := Lib.hid hO2; have HB2 := Lib.hid hB2; clear hO2 hB2; have hc2 : w2.cell? ⟨g, 3, none⟩ = some (.slice Ap r.pend.length cp) := Blk.cell (Blk.below HH1.out HB2.out (Blk.lt HH1.out)) 3)
      | (go_at_call 38; refine (with_any X Ap _ cp r.pend ⟨i, A2, c2, l⟩ w2 (HBp.out.kp (HK1.out.trans (Kp.of_below HB2.out))) rfl (StrX.of_own HO2.out (fun y hy => Nat.lt_of_lt_of_le (HX.out y hy) HF1.out.size)) (fun y hy => Nat.lt_of_lt_of_le (HX.out y hy) (Nat.le_trans HF1.out.size HB2.out.size)) HOk.out.1 (HOk.out.ok_len hnm)).mono ?_; rintro e w3 ⟨A3, c3, bs3, rfl, hp3, hB3, hBl3⟩; have hc3 : w3.cell? ⟨g, 3, none⟩ = some (.slice Ap r.pend.length cp) := Blk.cell (Blk.below (Blk.below HH1.out HB2.out (Blk.lt HH1.out)) hBl3 (Nat.lt_of_lt_of_le (Blk.lt HH1.out) HB2.out.size)) 3; have hz3 : w3.frozen? ⟨g, 3, none⟩ = false := Blk.free (Blk.below (Blk.below HH1.out HB2.out (Blk.lt HH1.out)) hBl3 (Nat.lt_of_lt_of_le (Blk.lt HH1.out) HB2.out.size)) 3))
  all_goals
    have hH4 := Blk.set (Blk.below (Blk.below HH1.out HB2.out (Blk.lt HH1.out)) hBl3 (Nat.lt_of_lt_of_le (Blk.lt HH1.out) HB2.out.size)) 3 (.slice A3 bs3.length c3)
    have hF4 : Fr [g] w (w3.setCell ⟨g, 3, none⟩ (.slice A3 bs3.length c3)) := ((((HF1.out.drew 1).belows HB2.out HF1.out.size).belows hBl3 (Nat.le_trans HF1.out.size HB2.out.size)).set (.inl (by simp)) _)
    have d1 : (w3.setCell ⟨g, 3, none⟩ (.slice A3 bs3.length c3)).cell? ⟨g, 1, none⟩ = some (.int .i64 r.calls) := Blk.cell hH4 1
    have y1 := Blk.free hH4 1
    have HH4 := Lib.hid hH4
    have HF4 := Lib.hid hF4
    have HB4 := Lib.hid (hB3.kp (Kp.set (Kp.refl X w3) (p := ⟨g, 3, none⟩) HG.out (.slice A3 bs3.length c3)))
    have HBk4 := Lib.hid (HBk.out.kp (Kp.of_fr hF4 (X := X) (by simp; exact .inl HG.out)))
    have HPp := Lib.hid hp3
    generalize w3.setCell ⟨g, 3, none⟩ (.slice A3 bs3.length c3) = w4 at *
    clear hH4 hF4 hB3 hBl3 hp3 hc3 hz3 hc2 HB2 HO2
    go_wp2
    go_ret
    exact ⟨rfl, bs3, HPp.out.trans HPe.out, ⟨Ak, ck, A3, c3, Blk.set HH4.out 1 _, HBk4.out.kp (Kp.set (Kp.refl X w4) (p := ⟨g, 1, none⟩) HG.out _), HB4.out.kp (Kp.set (Kp.refl X w4) (p := ⟨g, 1, none⟩) HG.out _)⟩, HF4.out.set (.inl (by simp)) _⟩

/-- What a call that may not be leaves. -/
def RetRE4 (X : List Nat) (g : Nat) (c : Int) (r : RS) (w : World) (e : Ending) (w' : World) : Prop :=
  e = .returned (.int .i64 c) ∧ Rf w' X g { r with fuse := rpowF r.fuse r.down, down := powN r.fuse r.down } ∧ Fr [g] w w'
theorem rfused {X : List Nat} {g : Nat} {r : RS} {w w1 : World} {Ak Ap : Option Addr} {ck cp : Nat} {f : Int} {d : Bool} (hg : g ∈ X) (hBk : Bks w X Ak r.kept) (hBp : Bks w X Ap r.pend) (hF : Fr [g] w w1) (hH : RHead w1 g r.n r.calls Ak r.kept.length ck Ap r.pend.length cp f d) :
    Rf w1 X g { r with fuse := f, down := d } := by
  have hK : Kp X w w1 := Kp.of_fr hF (by simp; exact .inl hg)
  exact ⟨Ak, ck, Ap, cp, hH, hBk.kp hK, hBp.kp hK⟩
set_option maxRecDepth 100000 in
set_option maxHeartbeats 1000000 in
theorem rwrite_err (X : List Nat) (g : Nat) (r : RS) (i : Int) (A : Option Addr) (n c : Nat) (w : World) (hR : Rf w X g r) (hg : g ∈ X) (hf : 0 ≤ r.fuse ∧ r.fuse ≤ 9223372036854775807)
    (hno : powN r.fuse r.down = true ∨ ¬ (0 ≤ i ∧ i < (r.n : Int)) ∨ 128 < n) :
    Calls Tryd.prog 16 #[.pointer (some ⟨g, 0, none⟩), .int .i64 i, .slice A n c] w (RetRE4 X g (if powN r.fuse r.down then 119 else if ¬ (0 ≤ i ∧ i < (r.n : Int)) then 118 else 103) r w) := by
  obtain ⟨Ak, ck, Ap, cp, hH, hBk, hBp⟩ := hR
  have HH := Lib.hid hH
  have HBk := Lib.hid hBk
  have HBp := Lib.hid hBp
  have HF := Lib.hid hf
  have HG := Lib.hid hg
  have HN := Lib.hid hno
  clear hH hBk hBp hf hg hno
  generalize hcd : (if powN r.fuse r.down then (119 : Int) else if ¬ (0 ≤ i ∧ i < (r.n : Int)) then 118 else 103) = cd
  have HC := Lib.hid hcd
  clear hcd
  go_enter Tryd.func16, Tryd.ntmps16
  go_wp2_with fail
  refine (rpower_head g r.n _ _ _ _ _ _ _ _ _ w HH.out HF.out).mono ?_
  rintro e w1 ⟨rfl, hH1, hF1⟩
  have c0 : w1.cell? ⟨g, 0, none⟩ = some (.int .i64 (r.n : Int)) := Blk.cell hH1 0
  have HE := Lib.hid (rfused HG.out HBk.out HBp.out hF1 hH1)
  have HF1 := Lib.hid hF1
  clear hH1 hF1
  cases hp : powN r.fuse r.down
  · rw [hp] at HE
    by_cases hi : 0 ≤ i ∧ i < (r.n : Int)
    · have hn : (128 : Int) < n := by
        rcases HN.out with h | h | h
        · rw [hp] at h; cases h
        · exact absurd hi h
        · omega
      have i1 : ¬ i < 0 := by omega
      have i2 : ¬ (r.n : Int) ≤ i := by omega
      have hcd := HC.out
      rw [hp, if_neg (by simp), if_neg (fun h => h hi)] at hcd
      subst hcd
      have HPp := Lib.hid hp
      clear hp hi
      go_wp2
      go_ret
      exact ⟨rfl, by rw [HPp.out]; exact HE.out, HF1.out⟩
    · have hcd := HC.out
      rw [hp, if_neg (by simp), if_pos hi] at hcd
      subst hcd
      have HPp := Lib.hid hp
      clear hp
      by_cases i1 : i < 0
      · clear hi
        go_wp2
        go_ret
        exact ⟨rfl, by rw [HPp.out]; exact HE.out, HF1.out⟩
      · have i2 : (r.n : Int) ≤ i := by omega
        clear hi
        go_wp2
        go_ret
        exact ⟨rfl, by rw [HPp.out]; exact HE.out, HF1.out⟩
  · rw [hp] at HE
    have hcd := HC.out
    rw [hp, if_pos rfl] at hcd
    subst hcd
    have HPp := Lib.hid hp
    clear hp
    go_wp2
    go_ret
    exact ⟨rfl, by rw [HPp.out]; exact HE.out, HF1.out⟩
end Go.Proofs.YtgombgkfocpacaaDoor
