/-
  The document's disk: the walks of New, find, power, Arm, Read. Conditions: each theorem's own premises.
-/
import Derived.Test.YtgombgkfocpacaaDoorDkR2
namespace Go.Proofs.YtgombgkfocpacaaDoor
open Go.RowKit Go.Maps

/-- The document's disk as plain data. -/
structure RS where
  n : Nat
  calls : Int
  kept : List BV
  pend : List BV
  fuse : Int
  down : Bool
/-- Its fields. -/
def RHead (w : World) (g n : Nat) (calls : Int) (Ak : Option Addr) (nk ck : Nat) (Ap : Option Addr) (np cp : Nat) (fuse : Int) (down : Bool) : Prop :=
  Blk w g 47 #[.int .i64 (n : Int), .int .i64 calls, .slice Ak nk ck, .slice Ap np cp, .int .i64 fuse, .bool down]
/-- The document's disk at block g. -/
def Rf (w : World) (X : List Nat) (g : Nat) (r : RS) : Prop :=
  ∃ Ak ck Ap cp, RHead w g r.n r.calls Ak r.kept.length ck Ap r.pend.length cp r.fuse r.down ∧ Bks w X Ak r.kept ∧ Bks w X Ap r.pend
theorem Rf.lt {w : World} {X : List Nat} {g : Nat} {r : RS} (h : Rf w X g r) : g < w.heap.size := by obtain ⟨_, _, _, _, h, _⟩ := h; exact Blk.lt h
theorem Rf.fr {w w' : World} {X S : List Nat} {g : Nat} {r : RS} (h : Rf w X g r) (hF : Fr S w w') (hg : g ∉ S) (hk : Kp X w w') : Rf w' X g r := by
  obtain ⟨Ak, ck, Ap, cp, h1, h2, h3⟩ := h
  exact ⟨Ak, ck, Ap, cp, Blk.fr h1 hF hg, h2.kp hk, h3.kp hk⟩

/-- Where the loop of 'find' stands. -/
def FiRel (w : World) (bs : List BV) (i : Int) (v : Value) (wr : World) : Prop := ∃ k : Nat, k ≤ bs.length ∧ v = .int .i64 (k : Int) ∧ wr = w ∧ getP i (pairsB bs) = getP i (pairsB (bs.drop k))
/-- What 'find' leaves. -/
def RetFi (bs : List BV) (i : Int) (w : World) (e : Ending) (w' : World) : Prop := w' = w ∧ ((e = .returned (.int .i64 (-1)) ∧ getP i (pairsB bs) = none) ∨ ∃ (k : Nat) (hk : k < bs.length), e = .returned (.int .i64 (k : Int)) ∧ getP i (pairsB bs) = some bs[k].l)
set_option maxRecDepth 100000 in
theorem find_any (X : List Nat) (A : Option Addr) (n c : Nat) (bs : List BV) (i : Int) (w : World) (hB : Bks w X A bs) (hn : n = bs.length) (hl : n ≤ 16384) :
    Calls Tryd.prog 43 #[.slice A n c, .int .i64 i] w (RetFi bs i w) := by
  have HB := Lib.hid hB
  have HN := Lib.hid hn
  clear hB hn
  have hstep : ∀ k (hk : k < bs.length), getP i (pairsB (bs.drop k)) = if bs[k].i = i then some bs[k].l else getP i (pairsB (bs.drop (k + 1))) := by
    intro k hk
    rw [List.drop_eq_getElem_cons hk]
    rfl
  have HSt := Lib.hid hstep
  clear hstep
  go_enter Tryd.func43, Tryd.ntmps43
  go_wp2_with fail
  go_loopw [5] (fun v wr => FiRel w bs i v wr) (fun v _ => n - (intOf v).toNat)
  case atStart => exact ⟨0, Nat.zero_le _, rfl, rfl, rfl⟩
  case round =>
    obtain ⟨k, hk, rfl, rfl, hg⟩ := hrel
    have HG := Lib.hid hg
    have hk : k ≤ n := by have := HN.out; omega
    clear hg
    by_cases hlt : k < n
    · have hkb : k < bs.length := by have := HN.out; omega
      have hltI : (k : Int) < n := by omega
      obtain ⟨ad, hA, _, hy0, _⟩ := HB.out.pick hkb
      subst hA
      obtain ⟨yi, hyi⟩ : ∃ z, z = bs[k].i := ⟨_, rfl⟩
      rw [← hyi] at hy0
      by_cases he : yi = i
      · have heb : (yi == i) = true := by rw [beq_iff_eq]; exact he
        have HE : Hid (getP i (pairsB bs) = some bs[k].l) := Lib.hid (by rw [HG.out, HSt.out k hkb, if_pos (by rw [← hyi]; exact he)])
        clear hyi he
        go_wp2
        go_ret
        exact ⟨rfl, .inr ⟨k, hkb, rfl, HE.out⟩⟩
      · have heb : (yi == i) = false := by rw [beq_eq_false_iff_ne]; exact he
        have HE : Hid (getP i (pairsB bs) = getP i (pairsB (bs.drop (k + 1)))) := Lib.hid (by rw [HG.out, HSt.out k hkb, if_neg (by rw [← hyi]; exact he)])
        clear hyi he
        go_wp2
        go_roundw
        case rel => exact ⟨k + 1, hkb, by go_num, rfl, HE.out⟩
        case measure => simp [intOf]; omega
    · have hltI : ¬ (k : Int) < n := by omega
      have HE : Hid (getP i (pairsB bs) = none) := Lib.hid (by rw [HG.out, List.drop_eq_nil_of_le (by have := HN.out; omega)]; rfl)
      go_wp2
      go_ret
      exact ⟨rfl, .inl ⟨rfl, HE.out⟩⟩

/-- What a call does to the document's fuse. -/
def rpowF (f : Int) (dn : Bool) : Int := if dn = true then f else if 0 < f then f - 1 else f
set_option maxRecDepth 100000 in
theorem rpower_head (g n : Nat) (calls : Int) (Ak : Option Addr) (nk ck : Nat) (Ap : Option Addr) (np cp : Nat) (fuse : Int) (down : Bool) (w : World) (h : RHead w g n calls Ak nk ck Ap np cp fuse down) (hf : 0 ≤ fuse ∧ fuse ≤ 9223372036854775807) :
    Calls Tryd.prog 37 #[.pointer (some ⟨g, 0, none⟩)] w fun e w' => e = .returned (.bool (!powN fuse down)) ∧ RHead w' g n calls Ak nk ck Ap np cp (rpowF fuse down) (powN fuse down) ∧ Fr [g] w w' := by
  have c4 : w.cell? ⟨g, 4, none⟩ = some (.int .i64 fuse) := Blk.cell h 4
  have c5 : w.cell? ⟨g, 5, none⟩ = some (.bool down) := Blk.cell h 5
  have z4 := Blk.free h 4
  have z5 := Blk.free h 5
  have HH := Lib.hid h
  clear h
  cases down
  · by_cases h0 : 0 < fuse
    · by_cases h1 : fuse = 1
      · subst h1
        go_enter Tryd.func37, Tryd.ntmps37
        go_wp2
        go_ret
        exact ⟨rfl, Blk.set (Blk.set HH.out 4 _) 5 _, ((Fr.refl [g] w).set (.inl (by simp)) _).set (.inl (by simp)) _⟩
      · have hb : (fuse - 1 == 0) = false := by rw [beq_eq_false_iff_ne]; omega
        have hp : powN fuse false = false := by unfold powN; rw [decide_eq_false h1]; rfl
        have hr : rpowF fuse false = fuse - 1 := by unfold rpowF; rw [if_neg (by simp), if_pos h0]
        rw [hp, hr]
        clear h1 hp hr
        go_enter Tryd.func37, Tryd.ntmps37
        go_wp2
        go_ret
        exact ⟨rfl, Blk.set HH.out 4 _, (Fr.refl [g] w).set (.inl (by simp)) _⟩
    · have hp : powN fuse false = false := by unfold powN; rw [decide_eq_false (by omega)]; rfl
      have hr : rpowF fuse false = fuse := by unfold rpowF; rw [if_neg (by simp), if_neg h0]
      rw [hp, hr]
      clear hp hr
      go_enter Tryd.func37, Tryd.ntmps37
      go_wp2
      go_ret
      exact ⟨rfl, HH.out, Fr.refl _ _⟩
  · go_enter Tryd.func37, Tryd.ntmps37
    go_wp2
    go_ret
    exact ⟨rfl, HH.out, Fr.refl _ _⟩

set_option maxRecDepth 100000 in
theorem rarm_head (g n : Nat) (calls : Int) (Ak : Option Addr) (nk ck : Nat) (Ap : Option Addr) (np cp : Nat) (fuse a : Int) (down : Bool) (w : World) (h : RHead w g n calls Ak nk ck Ap np cp fuse down) :
    Calls Tryd.prog 20 #[.pointer (some ⟨g, 0, none⟩), .int .i64 a] w fun e w' => e = .returned (.tuple #[]) ∧ RHead w' g n calls Ak nk ck Ap np cp (max a 0) down ∧ Fr [g] w w' := by
  have c4 : w.cell? ⟨g, 4, none⟩ = some (.int .i64 fuse) := Blk.cell h 4
  have z4 := Blk.free h 4
  have HH := Lib.hid h
  clear h
  go_enter Tryd.func20, Tryd.ntmps20
  go_wp2
  go_end0
  exact ⟨rfl, Blk.set HH.out 4 _, (Fr.refl [g] w).set (.inl (by simp)) _⟩

/-- What New leaves where it makes a disk. -/
def RetRN (X : List Nat) (n : Nat) (w : World) (e : Ending) (w' : World) : Prop :=
  e = .returned (.tuple #[.pointer (some ⟨w.heap.size, 0, none⟩), .int .i64 0]) ∧ Rf w' X w.heap.size ⟨n, 0, [], [], 0, false⟩ ∧ Fr [] w w'
set_option maxRecDepth 100000 in
theorem rnew_ok (X : List Nat) (n : Nat) (w : World) (h1 : 1 ≤ n) (h2 : n ≤ 16384) : Calls Tryd.prog 11 #[.int .i64 (n : Int)] w (RetRN X n w) := by
  have ha : ¬ ((n : Int) < 1) := by omega
  have hb : ¬ ((16384 : Int) < n) := by omega
  go_enter Tryd.func11, Tryd.ntmps11
  go_wp2
  go_ret2
  exact ⟨rfl, ⟨none, 0, none, 0, heap_alloc_new w _, Bks.nil, Bks.nil⟩, (Fr.refl [] w).alloc _⟩
set_option maxRecDepth 100000 in
theorem rnew_err (n : Int) (w : World) (h : n < 1 ∨ 16384 < n) : Calls Tryd.prog 11 #[.int .i64 n] w fun e w' => e = .returned (.tuple #[.pointer none, .int .i64 104]) ∧ w' = w := by
  by_cases h1 : n < 1
  · go_enter Tryd.func11, Tryd.ntmps11
    go_wp2
    go_ret2
    exact ⟨rfl, rfl⟩
  · have h2 : 16384 < n := by omega
    go_enter Tryd.func11, Tryd.ntmps11
    go_wp2
    go_ret2
    exact ⟨rfl, rfl⟩

/-- What a sector of the document's disk reads as. -/
def lookR (r : RS) (i : Int) : Sec := match getP i (pairsB r.pend) with | some b => some b | none => getP i (pairsB r.kept)
/-- What Read leaves where it does well. -/
def RetRR (X : List Nat) (x : Sec) (w : World) (e : Ending) (w' : World) : Prop :=
  w' = w ∧ match x with
  | none => e = .returned (.tuple #[.slice none 0 0, .bool false, .int .i64 0])
  | some b => ∃ A c, e = .returned (.tuple #[.slice A b.length c, .bool true, .int .i64 0]) ∧ StrX w X A b
set_option maxRecDepth 100000 in
set_option maxHeartbeats 400000 in
theorem rread_ok (X : List Nat) (g : Nat) (r : RS) (i : Int) (w : World) (hR : Rf w X g r) (hd : r.down = false) (hi : 0 ≤ i ∧ i < (r.n : Int)) (hk : r.kept.length ≤ 16384) (hp : r.pend.length ≤ 16384) :
    Calls Tryd.prog 27 #[.pointer (some ⟨g, 0, none⟩), .int .i64 i] w (RetRR X (lookR r i) w) := by
  obtain ⟨Ak, ck, Ap, cp, hH, hBk, hBp⟩ := hR
  have c0 : w.cell? ⟨g, 0, none⟩ = some (.int .i64 (r.n : Int)) := Blk.cell hH 0
  have c2 : w.cell? ⟨g, 2, none⟩ = some (.slice Ak r.kept.length ck) := Blk.cell hH 2
  have c3 : w.cell? ⟨g, 3, none⟩ = some (.slice Ap r.pend.length cp) := Blk.cell hH 3
  have c5 : w.cell? ⟨g, 5, none⟩ = some (.bool false) := (Blk.cell hH 5).trans (by rw [hd]; rfl)
  have i1 : ¬ i < 0 := by omega
  have i2 : ¬ (r.n : Int) ≤ i := by omega
  have HBk := Lib.hid hBk
  have HBp := Lib.hid hBp
  clear hH hBk hBp hd hi
  generalize hX : lookR r i = x
  have HX := Lib.hid hX
  clear hX
  go_enter Tryd.func27, Tryd.ntmps27
  go_wp2_with fail
  refine (find_any X Ap _ cp r.pend i w HBp.out rfl hp).mono ?_
  rintro e w1 ⟨rfl, he⟩
  rcases he with ⟨rfl, hn⟩ | ⟨k, hkl, rfl, hb⟩
  · go_wp2_with fail
    refine (find_any X Ak _ ck r.kept i w1 HBk.out rfl hk).mono ?_
    rintro e w2 ⟨rfl, he⟩
    rcases he with ⟨rfl, hn2⟩ | ⟨k, hkl, rfl, hb⟩
    · obtain rfl : x = none := by rw [← HX.out]; unfold lookR; rw [hn]; exact hn2
      clear HX hn hn2
      go_wp2
      go_ret3
      exact ⟨rfl, rfl⟩
    · obtain rfl : x = some r.kept[k].l := by rw [← HX.out]; unfold lookR; rw [hn]; exact hb
      obtain ⟨ad, rfl, _, hy0, hy1⟩ := HBk.out.pick hkl
      have hkI : (k : Int) < r.kept.length := by omega
      have hy1' : w2.cell? ⟨(ad.add (k * 2)).block, (ad.add (k * 2)).off + 1, none⟩ = some (.slice r.kept[k].A r.kept[k].l.length r.kept[k].c) := hy1
      have HE := Lib.hid (HBk.out.each r.kept[k] (List.getElem_mem _))
      clear HX hn hb
      go_wp2
      go_ret3
      exact ⟨rfl, _, _, rfl, HE.out⟩
  · obtain rfl : x = some r.pend[k].l := by rw [← HX.out]; unfold lookR; rw [hb]
    obtain ⟨ad, rfl, _, hy0, hy1⟩ := HBp.out.pick hkl
    have hkI : (k : Int) < r.pend.length := by omega
    have hy1' : w1.cell? ⟨(ad.add (k * 2)).block, (ad.add (k * 2)).off + 1, none⟩ = some (.slice r.pend[k].A r.pend[k].l.length r.pend[k].c) := hy1
    have HE := Lib.hid (HBp.out.each r.pend[k] (List.getElem_mem _))
    clear HX hb
    go_wp2
    go_ret3
    exact ⟨rfl, _, _, rfl, HE.out⟩

set_option maxRecDepth 100000 in
theorem rread_down (X : List Nat) (g : Nat) (r : RS) (i : Int) (w : World) (hR : Rf w X g r) (hd : r.down = true) :
    Calls Tryd.prog 27 #[.pointer (some ⟨g, 0, none⟩), .int .i64 i] w fun e w' => e = .returned (.tuple #[.slice none 0 0, .bool false, .int .i64 119]) ∧ w' = w := by
  obtain ⟨Ak, ck, Ap, cp, hH, _, _⟩ := hR
  have c5 : w.cell? ⟨g, 5, none⟩ = some (.bool true) := (Blk.cell hH 5).trans (by rw [hd]; rfl)
  clear hH hd
  go_enter Tryd.func27, Tryd.ntmps27
  go_wp2
  go_ret3
  exact ⟨rfl, rfl⟩
set_option maxRecDepth 100000 in
theorem rread_full (X : List Nat) (g : Nat) (r : RS) (i : Int) (w : World) (hR : Rf w X g r) (hd : r.down = false) (hi : ¬ (0 ≤ i ∧ i < (r.n : Int))) :
    Calls Tryd.prog 27 #[.pointer (some ⟨g, 0, none⟩), .int .i64 i] w fun e w' => e = .returned (.tuple #[.slice none 0 0, .bool false, .int .i64 118]) ∧ w' = w := by
  obtain ⟨Ak, ck, Ap, cp, hH, _, _⟩ := hR
  have c0 : w.cell? ⟨g, 0, none⟩ = some (.int .i64 (r.n : Int)) := Blk.cell hH 0
  have c5 : w.cell? ⟨g, 5, none⟩ = some (.bool false) := (Blk.cell hH 5).trans (by rw [hd]; rfl)
  clear hH hd
  by_cases h0 : i < 0
  · clear hi
    go_enter Tryd.func27, Tryd.ntmps27
    go_wp2
    go_ret3
    exact ⟨rfl, rfl⟩
  · have h1 : (r.n : Int) ≤ i := by omega
    clear hi
    go_enter Tryd.func27, Tryd.ntmps27
    go_wp2
    go_ret3
    exact ⟨rfl, rfl⟩
end Go.Proofs.YtgombgkfocpacaaDoor
