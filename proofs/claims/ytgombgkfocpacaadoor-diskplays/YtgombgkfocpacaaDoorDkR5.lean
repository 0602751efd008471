/-
  The document's disk: the walks of Flush and Crash. Conditions: each theorem's own premises.
-/
import Derived.Test.YtgombgkfocpacaaDoorDkR4
namespace Go.Proofs.YtgombgkfocpacaaDoor
open Go.RowKit Go.Maps

theorem Kp.drew1 (X : List Nat) (w : World) : Kp X w w.drew := fun _ _ _ h => h
/-- What is kept behind a flush. -/
def flushR : Pend → Pend → Pend
  | K, [] => K
  | K, x :: r => flushR (insP x.1 x.2 K) r
/-- What is kept behind a crash. -/
def crashR : Pend → Pend → List Int → Pend
  | K, [], _ => K
  | K, x :: r, zs => crashR (if pk zs then insP x.1 x.2 K else K) r zs.tail

/-- Where the loops stand. -/
def RfRel (w : World) (X : List Nat) (g : Nat) (r : RS) (Ap : Option Addr) (cp : Nat) (fin : Pend) (rest : Nat → Pend → Pend) (i : Value) (wr : World) : Prop :=
  ∃ (k : Nat) (bs : List BV) (Ak : Option Addr) (ck : Nat), k ≤ r.pend.length ∧ i = .int .i64 (k : Int) ∧ RHead wr g r.n r.calls Ak bs.length ck Ap r.pend.length cp r.fuse r.down ∧ Bks wr X Ak bs ∧ Bks wr X Ap r.pend ∧ OkP r.n (pairsB bs) ∧ rest k (pairsB bs) = fin ∧ Fr [g] w wr

theorem rf_next {w wr w3 : World} {X : List Nat} {g n : Nat} {calls fuse : Int} {down : Bool} {pend bs bs3 : List BV} {Ak Ap A3 : Option Addr} {ck cp c3 : Nat} {P : Pend} (hg : g ∈ X) (hH : RHead wr g n calls Ak bs.length ck Ap pend.length cp fuse down) (hBp : Bks wr X Ap pend) (hF : Fr [g] w wr)
    (hp : pairsB bs3 = P) (hB3 : Bks w3 X A3 bs3) (hBl : Below wr.drew.heap.size wr.drew w3) :
    RHead (w3.setCell ⟨g, 2, none⟩ (.slice A3 bs3.length c3)) g n calls A3 bs3.length c3 Ap pend.length cp fuse down ∧ Bks (w3.setCell ⟨g, 2, none⟩ (.slice A3 bs3.length c3)) X A3 bs3 ∧ Bks (w3.setCell ⟨g, 2, none⟩ (.slice A3 bs3.length c3)) X Ap pend ∧ pairsB bs3 = P ∧ Fr [g] w (w3.setCell ⟨g, 2, none⟩ (.slice A3 bs3.length c3)) := by
  have hH' : RHead wr.drew g n calls Ak bs.length ck Ap pend.length cp fuse down := hH
  have hF4 : Fr [g] w (w3.setCell ⟨g, 2, none⟩ (.slice A3 bs3.length c3)) := ((hF.drew 1).belows hBl hF.size).set (.inl (by simp)) _
  refine ⟨Blk.set (Blk.below hH' hBl (Blk.lt hH')) 2 _, hB3.kp (Kp.set (Kp.refl X w3) (p := ⟨g, 2, none⟩) hg _), ?_, hp, hF4⟩
  exact (hBp.kp ((Kp.drew1 X wr).trans (Kp.of_below hBl))).kp (Kp.set (Kp.refl X w3) (p := ⟨g, 2, none⟩) hg _)

/-- What Flush leaves where it does well. -/
def RetRF (X : List Nat) (g : Nat) (r : RS) (w : World) (e : Ending) (w' : World) : Prop :=
  e = .returned (.int .i64 0) ∧ ∃ bs, pairsB bs = flushR (pairsB r.kept) (pairsB r.pend) ∧ OkP r.n (pairsB bs) ∧ Rf w' X g { r with kept := bs, pend := [], calls := r.calls + 1, fuse := rpowF r.fuse r.down, down := false } ∧ Fr [g] w w'

theorem pairsB_drop {bs : List BV} {k : Nat} (h : k < bs.length) : pairsB (bs.drop k) = bs[k].pair :: pairsB (bs.drop (k + 1)) := by rw [List.drop_eq_getElem_cons h]; rfl

set_option maxRecDepth 100000 in
set_option maxHeartbeats 2000000 in
theorem rflush_ok (X : List Nat) (g : Nat) (r : RS) (w : World) (hR : Rf w X g r) (hg : g ∈ X) (hX : ∀ x ∈ X, x < w.heap.size) (hp : powN r.fuse r.down = false) (hf : 0 ≤ r.fuse ∧ r.fuse ≤ 9223372036854775807)
    (hok : OkP r.n (pairsB r.pend)) (hok2 : OkP r.n (pairsB r.kept)) (hnm : r.n ≤ 16384) (hc : 0 ≤ r.calls ∧ r.calls < 4611686018427387904) :
    Calls Tryd.prog 18 #[.pointer (some ⟨g, 0, none⟩)] w (RetRF X g r w) := by
  obtain ⟨Ak, ck, Ap, cp, hH, hBk, hBp⟩ := hR
  have HH := Lib.hid hH
  have HBk := Lib.hid hBk
  have HBp := Lib.hid hBp
  have HX := Lib.hid hX
  have HP := Lib.hid hp
  have HF := Lib.hid hf
  have HOk := Lib.hid hok
  have HOk2 := Lib.hid hok2
  have HG := Lib.hid hg
  have hpl := hok.ok_len hnm
  clear hH hBk hBp hX hp hf hok hok2 hg
  go_enter Tryd.func18, Tryd.ntmps18
  go_wp2_with fail
  refine (rpower_head g r.n _ _ _ _ _ _ _ _ _ w HH.out HF.out).mono ?_
  rintro e w1 ⟨rfl, hH1, hF1⟩
  rw [HP.out] at hH1 ⊢
  have hK1 : Kp X w w1 := Kp.of_fr hF1 (by simp; exact .inl HG.out)
  have HH1 := Lib.hid hH1
  have HF1 := Lib.hid hF1
  have HBk1 := Lib.hid (HBk.out.kp hK1)
  have HBp1 := Lib.hid (HBp.out.kp hK1)
  clear hH1 hF1 hK1 HBk HBp
  go_wp2_with fail
  go_loopw [3] (fun i wr => RfRel w X g { r with fuse := rpowF r.fuse r.down, down := false } Ap cp (flushR (pairsB r.kept) (pairsB r.pend)) (fun k K => flushR K (pairsB (r.pend.drop k))) i wr) (fun i _ => r.pend.length - (intOf i).toNat)
  case atStart => exact ⟨0, r.kept, Ak, ck, Nat.zero_le _, rfl, HH1.out, HBk1.out, HBp1.out, HOk2.out, rfl, HF1.out⟩
  case round =>
    obtain ⟨k, bs, Ak', ck', hk, rfl, hHk, hBk, hBp, hokk, hfin, hFr⟩ := hrel
    have c1 : wr.cell? ⟨g, 1, none⟩ = some (.int .i64 r.calls) := Blk.cell hHk 1
    have c2 : wr.cell? ⟨g, 2, none⟩ = some (.slice Ak' bs.length ck') := Blk.cell hHk 2
    have c3 : wr.cell? ⟨g, 3, none⟩ = some (.slice Ap r.pend.length cp) := Blk.cell hHk 3
    have z3 := Blk.free hHk 3
    have z1 := Blk.free hHk 1
    have HHk := Lib.hid hHk
    have HBk := Lib.hid hBk
    have HBp := Lib.hid hBp
    have HOkk := Lib.hid hokk
    have HFin := Lib.hid hfin
    have HFr := Lib.hid hFr
    clear hHk hBk hBp hokk hfin hFr
    by_cases hlt : k < r.pend.length
    · have hltI : (k : Int) < r.pend.length := by omega
      have hk0 : (0 : Int) ≤ (k : Int) := by omega
      obtain ⟨ad, hA, _, hy0, hy1⟩ := HBp.out.pick hlt
      have hy1' : wr.cell? ⟨(ad.add (k * 2)).block, (ad.add (k * 2)).off + 1, none⟩ = some (.slice r.pend[k].A r.pend[k].l.length r.pend[k].c) := hy1
      have HEach := Lib.hid (HBp.out.each r.pend[k] (List.getElem_mem _))
      have HIn := Lib.hid (HOk.out.2 r.pend[k].pair (List.mem_map.2 ⟨_, List.getElem_mem hlt, rfl⟩))
      subst hA
      have HW := Lib.hid (with_any X Ak' bs.length ck' bs r.pend[k] wr.drew (HBk.out.kp (Kp.drew1 X wr)) rfl (HEach.out.kp (Kp.drew1 X wr)) (fun y hy => Nat.lt_of_lt_of_le (HX.out y hy) HFr.out.size) HOkk.out.1 (HOkk.out.ok_len hnm))
      clear hy1
      go_wp2_with fail
      go_region_with (first | (go_at_call 38; refine HW.out.mono ?_; rintro e w3 ⟨A3, c3', bs3, rfl, hp3, hB3, hBl3⟩; have hc3 : w3.cell? ⟨g, 2, none⟩ = some (.slice Ak' bs.length ck') := Blk.cell (Blk.below (w := wr.drew) HHk.out hBl3 (Blk.lt HHk.out)) 2; have hz3 : w3.frozen? ⟨g, 2, none⟩ = false := Blk.free (Blk.below (w := wr.drew) HHk.out hBl3 (Blk.lt HHk.out)) 2))
      all_goals
        obtain ⟨n1, n2, n3, n4, n5⟩ := rf_next (c3 := c3') HG.out HHk.out HBp.out HFr.out hp3 hB3 hBl3
        have hx : Fr [g] w (w3.setCell ⟨g, 2, none⟩ (.slice A3 bs3.length c3')) := n5
        have HN1 := Lib.hid n1
        have HN2 := Lib.hid n2
        have HN3 := Lib.hid n3
        have HN4 := Lib.hid n4
        have HN5 := Lib.hid hx
        generalize w3.setCell ⟨g, 2, none⟩ (.slice A3 bs3.length c3') = w4 at *
        clear n1 n2 n3 n4 n5 hx hp3 hB3 hBl3 hc3 hz3 HW
        go_wp2
        go_roundw
        case rel => exact ⟨k + 1, bs3, A3, c3', hlt, by go_num, HN1.out, HN2.out, HN3.out, by rw [HN4.out]; exact OkP.ins HIn.out.1 HIn.out.2.1 HIn.out.2.2 HOkk.out, by show flushR (pairsB bs3) (pairsB (r.pend.drop (k + 1))) = _; rw [← HFin.out, HN4.out]; show _ = flushR (pairsB bs) (pairsB (r.pend.drop k)); rw [pairsB_drop hlt]; rfl, HN5.out⟩
        case measure => simp [intOf]; omega
    · have hltI : ¬ (k : Int) < r.pend.length := by omega
      have hfin : flushR (pairsB bs) (pairsB (r.pend.drop k)) = flushR (pairsB r.kept) (pairsB r.pend) := HFin.out
      rw [List.drop_eq_nil_of_le (by omega)] at hfin
      have HFin2 : Hid (pairsB bs = flushR (pairsB r.kept) (pairsB r.pend)) := Lib.hid hfin
      clear hfin
      go_wp2
      go_ret
      have hF4 : Fr [g] w ((wr.setCell ⟨g, 3, none⟩ (.slice none 0 0)).setCell ⟨g, 1, none⟩ (.int .i64 (r.calls + 1))) := (HFr.out.set (.inl (by simp)) _).set (.inl (by simp)) _
      exact ⟨rfl, bs, HFin2.out, HOkk.out, ⟨Ak', ck', none, 0, Blk.set (Blk.set HHk.out 3 _) 1 _, (HBk.out.kp (Kp.set (Kp.set (Kp.refl X wr) (p := ⟨g, 3, none⟩) HG.out _) (p := ⟨g, 1, none⟩) HG.out _)), Bks.nil⟩, hF4⟩

set_option maxRecDepth 100000 in
set_option maxHeartbeats 1000000 in
theorem rflush_err (X : List Nat) (g : Nat) (r : RS) (w : World) (hR : Rf w X g r) (hg : g ∈ X) (hf : 0 ≤ r.fuse ∧ r.fuse ≤ 9223372036854775807) (hno : powN r.fuse r.down = true) :
    Calls Tryd.prog 18 #[.pointer (some ⟨g, 0, none⟩)] w (RetRE4 X g 119 r w) := by
  obtain ⟨Ak, ck, Ap, cp, hH, hBk, hBp⟩ := hR
  have HH := Lib.hid hH
  have HBk := Lib.hid hBk
  have HBp := Lib.hid hBp
  have HF := Lib.hid hf
  have HG := Lib.hid hg
  have HN := Lib.hid hno
  clear hH hBk hBp hf hg hno
  go_enter Tryd.func18, Tryd.ntmps18
  go_wp2_with fail
  refine (rpower_head g r.n _ _ _ _ _ _ _ _ _ w HH.out HF.out).mono ?_
  rintro e w1 ⟨rfl, hH1, hF1⟩
  have HE := Lib.hid (rfused HG.out HBk.out HBp.out hF1 hH1)
  have HF1 := Lib.hid hF1
  rw [HN.out]
  clear hH1 hF1
  go_wp2
  go_ret
  exact ⟨rfl, HE.out, HF1.out⟩

/-- What Crash leaves. -/
def RetRC (X : List Nat) (g : Nat) (r : RS) (zs : List Int) (w : World) (e : Ending) (w' : World) : Prop :=
  e = .returned (.tuple #[]) ∧ ∃ bs, pairsB bs = crashR (pairsB r.kept) (pairsB r.pend) zs ∧ OkP r.n (pairsB bs) ∧ Rf w' X g { r with kept := bs, pend := [], fuse := 0, down := false } ∧ Fr [g] w w'
theorem crashR_step {K p : Pend} {bs : List BV} {zs : List Int} {k : Nat} (h : k < bs.length) (hf : crashR K (pairsB (bs.drop k)) (zs.drop k) = p) : crashR (if pk (zs.drop k) then insP bs[k].i bs[k].l K else K) (pairsB (bs.drop (k + 1))) (zs.drop (k + 1)) = p := by
  rw [pairsB_drop h] at hf
  rw [← hf]
  show _ = crashR (if pk (zs.drop k) then insP bs[k].i bs[k].l K else K) (pairsB (bs.drop (k + 1))) (zs.drop k).tail
  rw [List.tail_drop]

set_option maxRecDepth 100000 in
set_option maxHeartbeats 2000000 in
theorem rcrash_any (X : List Nat) (g : Nat) (r : RS) (B : Nat) (A : Option Addr) (n c : Nat) (zs : List Int) (w : World) (hR : Rf w X g r) (hg : g ∈ X) (hX : ∀ x ∈ X, x < w.heap.size) (hz : Ints w B A zs) (hB : B ≤ w.heap.size) (hn : n = zs.length) (hzg : ∀ ad, A = some ad → ad.block < B → ad.block ≠ g)
    (hok : OkP r.n (pairsB r.pend)) (hok2 : OkP r.n (pairsB r.kept)) (hnm : r.n ≤ 16384) :
    Calls Tryd.prog 22 #[.pointer (some ⟨g, 0, none⟩), .slice A n c] w (RetRC X g r zs w) := by
  obtain ⟨Ak, ck, Ap, cp, hH, hBk, hBp⟩ := hR
  have HH := Lib.hid hH
  have HBk := Lib.hid hBk
  have HBp := Lib.hid hBp
  have HX := Lib.hid hX
  have HZ := Lib.hid hz
  have HN := Lib.hid hn
  have HZG := Lib.hid hzg
  have HOk := Lib.hid hok
  have HOk2 := Lib.hid hok2
  have HG := Lib.hid hg
  have hpl := hok.ok_len hnm
  clear hH hBk hBp hX hz hn hok hok2 hg hzg
  go_enter Tryd.func22, Tryd.ntmps22
  go_wp2_with fail
  go_loopw [4] (fun i wr => RfRel w X g r Ap cp (crashR (pairsB r.kept) (pairsB r.pend) zs) (fun k K => crashR K (pairsB (r.pend.drop k)) (zs.drop k)) i wr) (fun i _ => r.pend.length - (intOf i).toNat)
  case atStart => exact ⟨0, r.kept, Ak, ck, Nat.zero_le _, rfl, HH.out, HBk.out, HBp.out, HOk2.out, rfl, Fr.refl _ _⟩
  case round =>
    obtain ⟨k, bs, Ak', ck', hk, rfl, hHk, hBk, hBp, hokk, hfin, hFr⟩ := hrel
    clear HH HBk HBp
    have c2 : wr.cell? ⟨g, 2, none⟩ = some (.slice Ak' bs.length ck') := Blk.cell hHk 2
    have c3 : wr.cell? ⟨g, 3, none⟩ = some (.slice Ap r.pend.length cp) := Blk.cell hHk 3
    have c4 : wr.cell? ⟨g, 4, none⟩ = some (.int .i64 r.fuse) := Blk.cell hHk 4
    have c5 : wr.cell? ⟨g, 5, none⟩ = some (.bool r.down) := Blk.cell hHk 5
    have z3 := Blk.free hHk 3
    have z4 := Blk.free hHk 4
    have z5 := Blk.free hHk 5
    have HHk := Lib.hid hHk
    have HBk := Lib.hid hBk
    have HBp := Lib.hid hBp
    have HOkk := Lib.hid hokk
    have HFin : Hid (crashR (pairsB bs) (pairsB (r.pend.drop k)) (zs.drop k) = crashR (pairsB r.kept) (pairsB r.pend) zs) := Lib.hid hfin
    have HFr := Lib.hid hFr
    clear hHk hBk hBp hokk hfin hFr
    by_cases hlt : k < r.pend.length
    · have hltI : (k : Int) < r.pend.length := by omega
      have hk0 : (0 : Int) ≤ (k : Int) := by omega
      by_cases hkn : k < zs.length
      · have hknI : (k : Int) < n := by have := HN.out; omega
        obtain ⟨adz, hAz, hbz, hcz⟩ := HZ.out.pick hkn
        subst hAz
        have hcz' : wr.cell? (adz.add k) = some (.int .i64 zs[k]) := by
          rw [World.cell?_of_block (a := adz.add k) (HFr.out.block _ (by rw [add_block]; omega) (by rw [add_block]; simpa using HZG.out adz rfl hbz)), hcz]
        obtain ⟨z, hz⟩ : ∃ z, z = zs[k] := ⟨_, rfl⟩
        rw [← hz] at hcz'
        have HZk := Lib.hid hz
        clear hz hcz hbz
        cases ho : oddI z
        · have hob : (bits BinOp.and IntKind.i64 z 1 == 1) = false := ho
          have HS : Hid (crashR (pairsB bs) (pairsB (r.pend.drop (k + 1))) (zs.drop (k + 1)) = crashR (pairsB r.kept) (pairsB r.pend) zs) := Lib.hid (by
            have := crashR_step hlt HFin.out
            rw [pk_drop hkn, ← HZk.out, ho] at this
            exact this)
          clear ho
          go_wp2
          go_roundw
          case rel => exact ⟨k + 1, bs, Ak', ck', hlt, by go_num, HHk.out, HBk.out, HBp.out, HOkk.out, HS.out, HFr.out⟩
          case measure => simp [intOf]; omega
        · have hob : (bits BinOp.and IntKind.i64 z 1 == 1) = true := ho
          have HS : Hid (crashR (insP r.pend[k].i r.pend[k].l (pairsB bs)) (pairsB (r.pend.drop (k + 1))) (zs.drop (k + 1)) = crashR (pairsB r.kept) (pairsB r.pend) zs) := Lib.hid (by
            have := crashR_step hlt HFin.out
            rw [pk_drop hkn, ← HZk.out, ho] at this
            exact this)
          clear ho
          obtain ⟨ad, hA, _, hy0, hy1⟩ := HBp.out.pick hlt
          have hy1' : wr.cell? ⟨(ad.add (k * 2)).block, (ad.add (k * 2)).off + 1, none⟩ = some (.slice r.pend[k].A r.pend[k].l.length r.pend[k].c) := hy1
          have HEach := Lib.hid (HBp.out.each r.pend[k] (List.getElem_mem _))
          have HIn := Lib.hid (HOk.out.2 r.pend[k].pair (List.mem_map.2 ⟨_, List.getElem_mem hlt, rfl⟩))
          subst hA
          have HW := Lib.hid (with_any X Ak' bs.length ck' bs r.pend[k] wr.drew (HBk.out.kp (Kp.drew1 X wr)) rfl (HEach.out.kp (Kp.drew1 X wr)) (fun y hy => Nat.lt_of_lt_of_le (HX.out y hy) HFr.out.size) HOkk.out.1 (HOkk.out.ok_len hnm))
          clear hy1
          go_wp2_with fail
          go_region_with (first | (go_at_call 38; refine HW.out.mono ?_; rintro e w3 ⟨A3, c3', bs3, rfl, hp3, hB3, hBl3⟩; have hc3 : w3.cell? ⟨g, 2, none⟩ = some (.slice Ak' bs.length ck') := Blk.cell (Blk.below (w := wr.drew) HHk.out hBl3 (Blk.lt HHk.out)) 2; have hz3 : w3.frozen? ⟨g, 2, none⟩ = false := Blk.free (Blk.below (w := wr.drew) HHk.out hBl3 (Blk.lt HHk.out)) 2))
          all_goals
            obtain ⟨n1, n2, n3, n4, n5⟩ := rf_next (c3 := c3') HG.out HHk.out HBp.out HFr.out hp3 hB3 hBl3
            have HN1 := Lib.hid n1
            have HN2 := Lib.hid n2
            have HN3 := Lib.hid n3
            have HN4 := Lib.hid n4
            have HN5 := Lib.hid n5
            generalize w3.setCell ⟨g, 2, none⟩ (.slice A3 bs3.length c3') = w4 at *
            clear n1 n2 n3 n4 n5 hp3 hB3 hBl3 hc3 hz3 HW
            go_wp2
            go_roundw
            case rel => exact ⟨k + 1, bs3, A3, c3', hlt, by go_num, HN1.out, HN2.out, HN3.out, by rw [HN4.out]; exact OkP.ins HIn.out.1 HIn.out.2.1 HIn.out.2.2 HOkk.out, by show crashR (pairsB bs3) (pairsB (r.pend.drop (k + 1))) (zs.drop (k + 1)) = _; rw [HN4.out]; exact HS.out, HN5.out⟩
            case measure => simp [intOf]; omega
      · have hknI : ¬ (k : Int) < n := by have := HN.out; omega
        have HS : Hid (crashR (pairsB bs) (pairsB (r.pend.drop (k + 1))) (zs.drop (k + 1)) = crashR (pairsB r.kept) (pairsB r.pend) zs) := Lib.hid (by
          have := crashR_step hlt HFin.out
          rw [pk_none hkn] at this
          exact this)
        go_wp2
        go_roundw
        case rel => exact ⟨k + 1, bs, Ak', ck', hlt, by go_num, HHk.out, HBk.out, HBp.out, HOkk.out, HS.out, HFr.out⟩
        case measure => simp [intOf]; omega
    · have hltI : ¬ (k : Int) < r.pend.length := by omega
      have hfin := HFin.out
      rw [List.drop_eq_nil_of_le (by omega)] at hfin
      have HFin2 : Hid (pairsB bs = crashR (pairsB r.kept) (pairsB r.pend) zs) := Lib.hid hfin
      clear hfin
      go_wp2
      go_end0
      have hF4 : Fr [g] w (((wr.setCell ⟨g, 3, none⟩ (.slice none 0 0)).setCell ⟨g, 5, none⟩ (.bool false)).setCell ⟨g, 4, none⟩ (.int .i64 0)) := ((HFr.out.set (.inl (by simp)) _).set (.inl (by simp)) _).set (.inl (by simp)) _
      exact ⟨rfl, bs, HFin2.out, HOkk.out, ⟨Ak', ck', none, 0, Blk.set (Blk.set (Blk.set HHk.out 3 _) 5 _) 4 _, (HBk.out.kp (Kp.set (Kp.set (Kp.set (Kp.refl X wr) (p := ⟨g, 3, none⟩) HG.out _) (p := ⟨g, 5, none⟩) HG.out _) (p := ⟨g, 4, none⟩) HG.out _)), Bks.nil⟩, hF4⟩
end Go.Proofs.YtgombgkfocpacaaDoor
