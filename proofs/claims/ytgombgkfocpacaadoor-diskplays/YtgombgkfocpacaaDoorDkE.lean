/-
  The walk of the disk's Crash. Conditions: each theorem's own premises.
-/
import Derived.Test.YtgombgkfocpacaaDoorDkD
namespace Go.Proofs.YtgombgkfocpacaaDoor
open Go.RowKit Go.Maps

/-- The slice at A holds these integers, in a block below B. -/
structure Ints (w : World) (B : Nat) (A : Option Addr) (l : List Int) : Prop where
  here : l ≠ [] → ∃ ad, A = some ad ∧ ad.block < B ∧ ∀ j z, l[j]? = some z → w.cell? (ad.add j) = some (.int .i64 z)
section
variable {w w' : World} {B : Nat} {A : Option Addr} {l : List Int}
theorem Ints.pick (h : Ints w B A l) {k : Nat} (hk : k < l.length) : ∃ ad, A = some ad ∧ ad.block < B ∧ w.cell? (ad.add k) = some (.int .i64 l[k]) := by
  obtain ⟨ad, e, hb, hc⟩ := h.here (by intro h; subst h; simp at hk)
  exact ⟨ad, e, hb, hc k _ (List.getElem?_eq_getElem hk)⟩
theorem Ints.nil : Ints w B A [] := ⟨fun h => absurd rfl h⟩
theorem Ints.keep (h : Ints w B A l) (hk : ∀ p : Addr, A.map (·.block) = some p.block → p.block < B → w'.cell? p = w.cell? p) : Ints w' B A l :=
  ⟨fun hn => by
    obtain ⟨ad, rfl, hb, hc⟩ := h.here hn
    exact ⟨ad, rfl, hb, fun j z hz => (hk _ (by simp [add_block]) (by rw [add_block]; exact hb)).trans (hc j z hz)⟩⟩
theorem Ints.fr {S : List Nat} (h : Ints w B A l) (f : Fr S w w') (hB : B ≤ w.heap.size) (hS : ∀ ad, A = some ad → ad.block < B → ad.block ∉ S) : Ints w' B A l :=
  h.keep fun p hp hb => World.cell?_of_block (f.block p.block (by omega) (by
    obtain ⟨ad, rfl, e⟩ := Option.map_eq_some_iff.1 hp
    rw [← e]
    exact hS ad rfl (by omega)))
end
theorem ints_of_row {W : World} {base n : Nat} {v : Value} {l : List Int} (hl : l.length = n) (h : W.ownsRow base 3 1 v n (l.map fun z => .int .i64 z)) :
    ∃ A c, v = .slice A n c ∧ Ints W W.heap.size A l ∧ ∀ ad, A = some ad → base ≤ ad.block := by
  rcases h.2 with ⟨rfl, hz⟩ | ⟨gb, cap, cur, rfl, hbase, hgb, r1, r2, r3⟩
  · refine ⟨none, 0, by rw [hz], ?_, by simp⟩
    obtain rfl : l = [] := List.eq_nil_of_length_eq_zero (by omega)
    exact Ints.nil
  · refine ⟨some ⟨gb, 0, none⟩, cap, rfl, ⟨fun _ => ⟨_, rfl, (Array.getElem?_eq_some_iff.1 hgb).1, fun j z hz => ?_⟩⟩, fun ad e => by cases e; exact hbase⟩
    exact World.ownsRow.cells h (g := gb) rfl j _ (by rw [List.getElem?_map, hz]; rfl)

/-- Is the first pick odd? -/
def pk : List Int → Bool
  | [] => false
  | z :: _ => oddI z
/-- What is kept behind a crash. -/
def crashK : List Sec → Pend → List Int → List Sec
  | K, [], _ => K
  | K, x :: r, zs => crashK (if pk zs then K.set x.1.toNat (some x.2) else K) r zs.tail
def crashD (s : DS) (zs : List Int) : DS := ⟨crashK s.kept s.pend zs, [], s.calls, 0, false⟩

theorem crashK_length : ∀ (K : List Sec) (p : Pend) (zs : List Int), (crashK K p zs).length = K.length
  | K, [], _ => rfl
  | K, x :: r, zs => by
    unfold crashK
    rw [crashK_length]
    split <;> simp
theorem pk_drop {zs : List Int} {k : Nat} (h : k < zs.length) : pk (zs.drop k) = oddI zs[k] := by
  rw [List.drop_eq_getElem_cons h]
  rfl
theorem pk_none {zs : List Int} {k : Nat} (h : ¬ k < zs.length) : pk (zs.drop k) = false := by
  rw [List.drop_eq_nil_of_le (by omega)]
  rfl
theorem crashK_step {K : List Sec} {p : Pend} {zs : List Int} {k : Nat} (h : k < p.length) : crashK K (p.drop k) (zs.drop k) = crashK (if pk (zs.drop k) then K.set p[k].1.toNat (some p[k].2) else K) (p.drop (k + 1)) (zs.drop (k + 1)) := by
  rw [List.drop_eq_getElem_cons h]
  show crashK _ (p.drop (k + 1)) ((zs.drop k).tail) = _
  rw [List.tail_drop]

/-- The contents turn at one sector. -/
theorem Row.set {w : World} {f : Nat} {K : List Sec} (h : Row w f K) (i : Nat) (x : Sec) (hi : i < K.length) :
    Row ((w.setCell ⟨f, i * 2, none⟩ (.bool (secB x))).setCell ⟨f, i * 2 + 1, none⟩ (.string ⟨(secS x).toArray⟩)) f (K.set i x) := by
  obtain ⟨cs, hcs, hr⟩ := h
  refine ⟨_, Blk.set (Blk.set hcs (i * 2) _) (i * 2 + 1) _, fun j y hy => ?_⟩
  have hi' := hr i K[i] (List.getElem?_eq_getElem hi)
  have b0 : i * 2 < cs.size := (Array.getElem?_eq_some_iff.1 hi'.1).1
  have b1 : i * 2 + 1 < cs.size := (Array.getElem?_eq_some_iff.1 hi'.2).1
  by_cases e : i = j
  · subst e
    rw [List.getElem?_set_self hi] at hy
    cases hy
    refine ⟨?_, ?_⟩
    · rw [Array.getElem?_setIfInBounds, if_neg (by omega), Array.getElem?_setIfInBounds, if_pos rfl, if_pos b0]
    · rw [Array.getElem?_setIfInBounds, if_pos rfl, if_pos (by simpa using b1)]
  · rw [List.getElem?_set_ne e] at hy
    have := hr j y hy
    refine ⟨?_, ?_⟩
    · rw [Array.getElem?_setIfInBounds, if_neg (by omega), Array.getElem?_setIfInBounds, if_neg (by omega)]; exact this.1
    · rw [Array.getElem?_setIfInBounds, if_neg (by omega), Array.getElem?_setIfInBounds, if_neg (by omega)]; exact this.2
theorem Dk.put {w : World} {g f m : Nat} {s : DS} (h : Dk w g f m s) (i : Nat) (x : Sec) (hi : i < s.kept.length) (hx : (secS x).length ≤ 128) :
    Dk ((w.setCell ⟨f, i * 2, none⟩ (.bool (secB x))).setCell ⟨f, i * 2 + 1, none⟩ (.string ⟨(secS x).toArray⟩)) g f m { s with kept := s.kept.set i x } ∧
    Fr [f] w ((w.setCell ⟨f, i * 2, none⟩ (.bool (secB x))).setCell ⟨f, i * 2 + 1, none⟩ (.string ⟨(secS x).toArray⟩)) := by
  have hF : Fr [f] w ((w.setCell ⟨f, i * 2, none⟩ (.bool (secB x))).setCell ⟨f, i * 2 + 1, none⟩ (.string ⟨(secS x).toArray⟩)) := ((Fr.refl [f] w).set (.inl (by simp)) _).set (.inl (by simp)) _
  have hl : (s.kept.set i x).length = s.kept.length := List.length_set
  obtain ⟨c, hH, h1, h2⟩ := h.head
  refine ⟨⟨⟨c, ?_, by rw [hl]; exact h1, h2⟩, h.row.set i x hi, owns_fr h.map hF (by simp [h.mf]), by rw [hl]; exact h.ok, by rw [hl]; exact h.n1, by rw [hl]; exact h.nm, ?_, h.fg⟩, hF⟩
  · show Head _ g f m (s.kept.set i x).length c s.calls s.armed s.down
    rw [hl]
    exact Blk.fr hH hF (by simp [h.fg.symm])
  · intro y hy
    rcases List.mem_or_eq_of_mem_set hy with hy | rfl
    · exact h.small y hy
    · exact hx

theorem getP_at : ∀ {p : Pend} {k : Nat} (hk : k < p.length), p.Pairwise (fun x y => x.1 < y.1) → getP p[k].1 p = some p[k].2
  | x :: r, 0, _, _ => by simp [getP]
  | x :: r, k + 1, hk, h => by
    have ht := List.pairwise_cons.1 h
    have hk' : k < r.length := by simpa using hk
    have := ht.1 r[k] (List.getElem_mem hk')
    show (if x.1 = r[k].1 then some x.2 else getP r[k].1 r) = some r[k].2
    rw [if_neg (by omega)]
    exact getP_at hk' ht.2

/-- Where the loop of Crash stands. -/
def CrRel (w : World) (g f m : Nat) (s : DS) (zs : List Int) (i : Value) (wr : World) : Prop :=
  ∃ (k : Nat) (K : List Sec), i = .int .i64 (k : Int) ∧ k ≤ s.pend.length ∧ K.length = s.kept.length ∧ Dk wr g f m { s with kept := K } ∧ crashK K (s.pend.drop k) (zs.drop k) = crashK s.kept s.pend zs ∧ Fr [f] w wr
theorem cr_skip {w wr : World} {g f m : Nat} {s : DS} {zs : List Int} {k : Nat} {K : List Sec} (hk : k < s.pend.length) (hKl : K.length = s.kept.length) (hD : Dk wr g f m { s with kept := K })
    (hK : crashK K (s.pend.drop k) (zs.drop k) = crashK s.kept s.pend zs) (hF : Fr [f] w wr) (hp : pk (zs.drop k) = false) : CrRel w g f m s zs (.int .i64 ((k : Int) + 1)) wr :=
  ⟨k + 1, K, by go_num, hk, hKl, hD, by rw [← hK, crashK_step hk, hp]; rfl, hF⟩
theorem cr_take {w wr : World} {g f m j : Nat} {s : DS} {zs : List Int} {k : Nat} {K : List Sec} (hk : k < s.pend.length) (hKl : K.length = s.kept.length) (hD : Dk wr g f m { s with kept := K })
    (hK : crashK K (s.pend.drop k) (zs.drop k) = crashK s.kept s.pend zs) (hF : Fr [f] w wr) (hp : pk (zs.drop k) = true) (hj : s.pend[k].1 = (j : Int)) (hjn : j < K.length) (hb : s.pend[k].2.length ≤ 128) :
    CrRel w g f m s zs (.int .i64 ((k : Int) + 1)) (((wr.setCell ⟨f, j * 2, none⟩ (.bool true)).setCell ⟨f, j * 2 + 1, none⟩ (.string ⟨s.pend[k].2.toArray⟩)).drew) := by
  obtain ⟨h1, h2⟩ := hD.put j (some s.pend[k].2) hjn hb
  refine ⟨k + 1, K.set j (some s.pend[k].2), by go_num, hk, by rw [List.length_set]; exact hKl, h1.fr ((Fr.refl [] _).drew 1) (by simp) (by simp) (by simp), ?_, (hF.trans h2 (by simp)).drew 1⟩
  rw [← hK, crashK_step hk, hp, if_pos rfl, hj]
  rfl

/-- What Crash leaves. -/
def RetC (g f m : Nat) (s : DS) (w : World) (e : Ending) (w' : World) : Prop := e = .returned (.tuple #[]) ∧ ∃ m', (m' = m ∨ w.heap.size ≤ m') ∧ Dk w' g f m' s ∧ Fr [g, f] w w'

set_option maxRecDepth 100000 in
set_option maxHeartbeats 1000000 in
theorem crash_any (g f m : Nat) (s : DS) (B : Nat) (A : Option Addr) (n c : Nat) (zs : List Int) (w : World) (hD : Dk w g f m s) (hz : Ints w B A zs) (hn : n = zs.length) (hB : B ≤ w.heap.size) (hf : ∀ ad, A = some ad → ad.block < B → ad.block ≠ f) :
    Calls Tryd.prog 21 #[.pointer (some ⟨g, 0, none⟩), .slice A n c] w (RetC g f m (crashD s zs) w) := by
  obtain ⟨k0, hH, hk1, hk2⟩ := hD.head
  have c1 : w.cell? ⟨g, 1, none⟩ = some (.map (some m)) := Blk.cell hH 1
  have HD := Lib.hid hD
  have HZ := Lib.hid hz
  have HN := Lib.hid hn
  have HAf := Lib.hid hf
  clear hD hH hz hn hf
  go_enter Tryd.func21, Tryd.ntmps21
  go_wp2_with fail
  refine (keys_any (some m) w).mono ?_
  rintro e w1 ⟨rfl, rfl⟩
  have hF1 : Fr [] w (w.alloc (.cells #[.map (some m)] 62)) := (Fr.refl _ _).alloc _
  go_wp2_with fail
  refine (sorted_any s.kept.length m s.pend.length w.heap.size s.pend _ HD.out.ok HD.out.nm (HD.out.map.alloc _) (by simp) (Blk.cell (heap_alloc_new w _) 0)).mono ?_
  rintro e w2 ⟨v, rfl, hrow, hB2⟩
  have hF2 := hF1.belows hB2 (by simp)
  obtain ⟨A2, c2, rfl, hI2, hA2⟩ := ints_of_row (l := s.pend.map (·.1)) (n := s.pend.length) (by simp) (by rw [List.map_map]; exact hrow)
  have HI2 := Lib.hid hI2
  have HA2 := Lib.hid hA2
  have HF2 := Lib.hid hF2
  clear hrow hB2 hF1 hI2 hA2 hF2
  have hpl : s.pend.length ≤ 16384 := by have := HD.out.ok.length; have := HD.out.nm; omega
  go_wp2_with fail
  go_loopw [13] (fun i wr => CrRel w2 g f m s zs i wr) (fun i _ => s.pend.length - (intOf i).toNat)
  case atStart => exact ⟨0, s.kept, rfl, Nat.zero_le _, rfl, HD.out.fr HF2.out (by simp) (by simp) (by simp), rfl, Fr.refl _ _⟩
  case round =>
    obtain ⟨k, K, rfl, hk, hKl, hDk, hK, hFr⟩ := hrel
    by_cases hlt : k < s.pend.length
    · have hltI : (k : Int) < s.pend.length := by omega
      obtain ⟨ad2, rfl, hb2, hc2⟩ := HI2.out.pick (k := k) (by simpa using hlt)
      have ha2 := HA2.out ad2 rfl
      have ha2' : w.heap.size < ad2.block := by simp at ha2; omega
      have hfl := HD.out.fl
      have hc2' : wr.cell? (ad2.add k) = some (.int .i64 s.pend[k].1) := by
        rw [World.cell?_of_block (a := ad2.add k) (hFr.block _ (by rw [add_block]; omega) (by rw [add_block]; simp; omega)), hc2]
        simp
      obtain ⟨j, hj⟩ : ∃ j : Nat, s.pend[k].1 = (j : Int) := ⟨s.pend[k].1.toNat, by have := HD.out.ok.2 s.pend[k] (List.getElem_mem _); omega⟩
      have hjn : j < K.length := by have := HD.out.ok.2 s.pend[k] (List.getElem_mem _); omega
      have hjb : (s.pend[k].2).length ≤ 128 := (HD.out.ok.2 s.pend[k] (List.getElem_mem _)).2.2
      rw [hj] at hc2'
      have HJ := Lib.hid hj
      have HK := Lib.hid hK
      have HDk := Lib.hid hDk
      have HFr := Lib.hid hFr
      have HKl := Lib.hid hKl
      clear hc2 hb2 ha2 hj hK hDk hFr hKl
      by_cases hkn : k < zs.length
      · have hknI : (k : Int) < n := by have := HN.out; omega
        obtain ⟨ad, rfl, hb, hc⟩ := HZ.out.pick hkn
        have hc' : wr.cell? (ad.add k) = some (.int .i64 zs[k]) := by
          rw [World.cell?_of_block (a := ad.add k) (HFr.out.block _ (by have := HF2.out.size; rw [add_block]; omega) (by rw [add_block]; simpa using HAf.out ad rfl hb)), World.cell?_of_block (a := ad.add k) (HF2.out.block _ (by rw [add_block]; omega) (by simp)), hc]
        obtain ⟨z, hz⟩ : ∃ z, z = zs[k] := ⟨_, rfl⟩
        rw [← hz] at hc'
        have HZk := Lib.hid hz
        clear hc hz hb
        go_wp2_with fail
        refine (odd_any z _).mono ?_
        rintro e w3 ⟨rfl, rfl⟩
        cases ho : oddI z
        · have HO := Lib.hid ho
          clear ho
          go_wp2
          go_roundw
          case rel => exact cr_skip hlt HKl.out HDk.out HK.out HFr.out (by rw [pk_drop hkn, ← HZk.out, HO.out])
          case measure => simp [intOf]; omega
        · obtain ⟨k2, hH2, _, _⟩ := HDk.out.head
          have c0' : w3.cell? ⟨g, 0, none⟩ = some (.slice (some ⟨f, 0, none⟩) K.length k2) := Blk.cell hH2 0
          have c1' : w3.cell? ⟨g, 1, none⟩ = some (.map (some m)) := Blk.cell hH2 1
          have hlk : (Instr.lookup 62 (.map (some m)) (.int .i64 (j : Int)) false).run Tryd.prog w3.drew = .ok (.agg #[.bool true, .string ⟨s.pend[k].2.toArray⟩]) w3.drew := by
            have h1 : w3.drew.ownsMap Tryd.prog 3 contR m s.pend.length (toD s.pend) := HDk.out.map.drew
            have h2 := look_no h1 (i := (j : Int)) (WalkArith.wf_i64 (by have := HD.out.nm; have := HKl.out; omega))
            rw [← HJ.out, getP_at hlt HD.out.ok.1, HJ.out] at h2
            exact h2
          obtain ⟨cs, hcs, hrow⟩ := HDk.out.row
          obtain ⟨r0, r1⟩ := hrow j _ (List.getElem?_eq_getElem hjn)
          have d0 : w3.cell? ⟨f, j * 2, none⟩ = _ := (Blk.cell hcs (j * 2)).trans r0
          have d1 : w3.cell? ⟨f, j * 2 + 1, none⟩ = _ := (Blk.cell hcs (j * 2 + 1)).trans r1
          have z0 := Blk.free hcs (j * 2)
          have z1 := Blk.free hcs (j * 2 + 1)
          have hjI : (j : Int) < K.length := by omega
          have HO := Lib.hid ho
          clear hcs hrow r0 r1 hH2 ho
          go_wp2_with fail
          go_region
          go_wp2
          go_roundw
          case rel => exact cr_take hlt HKl.out HDk.out HK.out HFr.out (by rw [pk_drop hkn, ← HZk.out, HO.out]) HJ.out hjn hjb
          case measure => simp [intOf]; omega
      · have hknI : ¬ (k : Int) < n := by have := HN.out; omega
        go_wp2
        go_roundw
        case rel => exact cr_skip hlt HKl.out HDk.out HK.out HFr.out (pk_none hkn)
        case measure => simp [intOf]; omega
    · obtain rfl : k = s.pend.length := by omega
      rw [List.drop_length] at hK
      have hK' : K = crashK s.kept s.pend zs := hK
      subst hK'
      obtain ⟨k2, hH2, h21, h22⟩ := hDk.head
      have HDk := Lib.hid hDk
      have HFr := Lib.hid hFr
      have HH2 := Lib.hid hH2
      clear hDk hFr hH2 hK hKl
      go_wp2_with fail
      refine (settle_head g f m _ k2 _ _ _ wr HH2.out).mono ?_
      rintro e w4 ⟨rfl, hH4, hO4, hF4⟩
      have c3 : w4.cell? ⟨g, 3, none⟩ = some (.int .i64 s.armed) := Blk.cell hH4 3
      have c4 : w4.cell? ⟨g, 4, none⟩ = some (.bool s.down) := Blk.cell hH4 4
      have z3 := Blk.free hH4 3
      have z4 := Blk.free hH4 4
      have HH4 := Lib.hid hH4
      have HO4 := Lib.hid hO4
      have HF4 := Lib.hid hF4
      clear hH4 hO4 hF4
      go_wp2
      go_end0
      have hF0 : Fr [g] wr ((w4.setCell ⟨g, 3, none⟩ (.int .i64 0)).setCell ⟨g, 4, none⟩ (.bool false)) := (HF4.out.set (.inl (by simp)) _).set (.inl (by simp)) _
      have hlw := HFr.out.size
      have hlw2 := HF2.out.size
      refine ⟨rfl, wr.heap.size, .inr (by omega), ⟨⟨k2, Blk.set (Blk.set HH4.out 3 _) 4 _, h21, h22⟩, HDk.out.row.fr hF0 (by simp [HDk.out.fg]), ?_, OkP.nil _, HDk.out.n1, HDk.out.nm, HDk.out.small, HDk.out.fg⟩, ?_⟩
      · have hgl := HDk.out.gl
        exact (HO4.out.setCell (a := ⟨g, 3, none⟩) (show wr.heap.size ≠ g by omega) _).setCell (a := ⟨g, 4, none⟩) (show wr.heap.size ≠ g by omega) _
      · exact ((HF2.out.more (S' := [g, f]) (by simp)).trans HFr.out (by simp)).trans hF0 (by simp)
end Go.Proofs.YtgombgkfocpacaaDoor
