/-
  The walks of jour's check, front, sectors, room, first and of a head's encoding. Conditions: each theorem's own premises.
-/
import Derived.Test.YtmpklljiddggpaaGreatDoorQJoG
import Derived.Test.YtmpklljiddggpaaGreatDoorQPut
import Derived.Deep.RegionHeld3
import Derived.Deep.AppendLies
import Derived.Deep.DeepCutAuto
import Derived.Lib.AppendStr
namespace Go.Proofs.YtmpklljiddggpaaGreatDoor
open Go.Shelf Go.RowKit Go.Lib Go.Sort

/-- How a call ends, as a value. -/
def resV (aR aC aF aM : Addr) : Res → Value
  | .fine => .nilIface
  | .range => .iface 190 (.pointer (some aR))
  | .many => .iface 190 (.pointer (some aM))
  | .full => .iface 190 (.pointer (some aF))
  | .crash => .iface 190 (.pointer (some aC))

theorem cell_below {B : Nat} {w w' : World} {p : Addr} {v : Value} (h : w.cell? p = some v) (hb : Below B w w') (hB : w.heap.size ≤ B) : w'.cell? p = some v := (hb.cell (by have := World.block_lt_of_cell? w _ h; omega)).trans h

set_option maxRecDepth 100000 in
set_option maxHeartbeats 2000000 in
theorem check_any (A : Option Addr) (c : Nat) (l : List Chg) (w : World) (aR aC aF aM : Addr) (hE : Es w aR aC aF aM) (hC : Chs w w.heap.size A l) (hl : l.length ≤ 1099511627776) :
    Calls Tryz.prog 24 #[.slice A l.length c] w fun e w' => e = .returned (resV aR aC aF aM (chk l)) ∧ Below w.heap.size w w' := by
  have HC := Lib.hid hC
  have HE := Lib.hid hE
  clear hC hE
  go_enter Tryz.func24, Tryz.ntmps24
  go_wp2
  go_loopg [4, 9] l.length (fun kx s4 s9 wr => ∃ k : Nat, s9 = .int .i64 k ∧ k ≤ l.length ∧ l.length - k ≤ kx ∧ Hid (∀ j (hj : j < l.length), j < k → badKey l[j] = false) ∧ Hid (Below w.heap.size w wr))
  case atStart => exact ⟨0, rfl, by omega, by omega, Lib.hid (fun j hj h => by omega), Lib.hid (Below.refl _ _)⟩
  case round =>
    obtain ⟨k, rfl, hkn, hkx, HN, HB⟩ := hrel
    by_cases hlt : k < l.length
    · have hltI : (k : Int) < l.length := by omega
      obtain ⟨ad, rfl, hbl, p0, p1, p2⟩ := (HC.out.below HB.out).pick hlt
      have hbad : badKey l[k] = (decide (l[k].key.length < 1) || decide (40 < l[k].key.length)) := rfl
      have hany : badKey l[k] = true → chk l = .range := fun h => by
        unfold chk
        rw [if_pos (List.any_eq_true.2 ⟨l[k], List.getElem_mem hlt, h⟩)]
      generalize hx : l[k] = x at *
      have HX := Lib.hid hx
      have HAny := Lib.hid hany
      have HBad := Lib.hid hbad
      clear hx hany hbad
      have gR := cell_below HE.out.r HB.out (Nat.le_refl _)
      have gl : 1 < wr.heap.size := World.block_lt_of_cell? wr _ gR
      have HB2 := Lib.hid (HB.out.trans (((Below.refl wr.heap.size wr).alloc (Nat.le_refl _) (.cells #[.string ⟨x.key.toArray⟩, .string ⟨x.val.toArray⟩, .bool x.gone] 55)).mono HB.out.size))
      by_cases h1 : x.key.length < 1
      · have h1I : (x.key.length : Int) < 1 := by omega
        have HR := Lib.hid (HAny.out (by rw [HBad.out, decide_eq_true h1]; rfl))
        clear h1
        go_wp2
        go_ret
        exact ⟨by rw [HR.out]; rfl, HB2.out⟩
      · have h1I : ¬ (x.key.length : Int) < 1 := by omega
        by_cases h2 : 40 < x.key.length
        · have h2I : (40 : Int) < x.key.length := by omega
          have HR := Lib.hid (HAny.out (by rw [HBad.out, decide_eq_true h2]; simp))
          clear h1 h2
          go_wp2
          go_ret
          exact ⟨by rw [HR.out]; rfl, HB2.out⟩
        · have h2I : ¬ (40 : Int) < x.key.length := by omega
          have HK : Hid (badKey x = false) := Lib.hid (by rw [HBad.out, decide_eq_false h1, decide_eq_false h2]; rfl)
          clear h1 h2 gR
          go_wp2
          go_roundg (l.length - (k + 1))
          case measure => omega
          case rel => exact ⟨k + 1, by go_num, by omega, Nat.le_refl _, Lib.hid (fun j hj h => by
            rcases Nat.lt_or_ge j k with h3 | h3
            · exact HN.out j hj h3
            · obtain rfl : j = k := by omega
              rw [HX.out]; exact HK.out), HB2⟩
    · have hltI : ¬ (k : Int) < l.length := by omega
      have HK : Hid (l.any badKey = false) := Lib.hid (by
        rw [List.any_eq_false]
        intro x hx
        obtain ⟨j, hj, rfl⟩ := List.mem_iff_getElem.1 hx
        rw [HN.out j hj (by omega)]
        simp)
      clear HN hkx hkn hlt
      go_wp2
      go_loopg [6, 27] l.length (fun kx s6 s27 wr => ∃ k : Nat, s27 = .int .i64 k ∧ k ≤ l.length ∧ l.length - k ≤ kx ∧ Hid (∀ j (hj : j < l.length), j < k → badVal l[j] = false) ∧ Hid (Below w.heap.size w wr))
      case atStart => exact ⟨0, rfl, by omega, by omega, Lib.hid (fun j hj h => by omega), HB⟩
      case round =>
        clear HB hltI
        obtain ⟨k, rfl, hkn, hkx, HN, HB⟩ := hrel
        by_cases hlt : k < l.length
        · have hltI : (k : Int) < l.length := by omega
          obtain ⟨ad, rfl, hbl, p0, p1, p2⟩ := (HC.out.below HB.out).pick hlt
          have hbad : badVal l[k] = decide (32768 < l[k].val.length) := rfl
          have hany : badVal l[k] = true → chk l = .many := fun h => by
            unfold chk
            rw [HK.out, if_neg (by simp), if_pos (List.any_eq_true.2 ⟨l[k], List.getElem_mem hlt, h⟩)]
          generalize hx : l[k] = x at *
          have HX := Lib.hid hx
          have HAny := Lib.hid hany
          have HBad := Lib.hid hbad
          clear hx hany hbad
          have gM := cell_below HE.out.m HB.out (Nat.le_refl _)
          have gl : 0 < wr.heap.size := World.block_lt_of_cell? wr _ gM
          have HB2 := Lib.hid (HB.out.trans (((Below.refl wr.heap.size wr).alloc (Nat.le_refl _) (.cells #[.string ⟨x.key.toArray⟩, .string ⟨x.val.toArray⟩, .bool x.gone] 55)).mono HB.out.size))
          by_cases h2 : 32768 < x.val.length
          · have h2I : (32768 : Int) < x.val.length := by omega
            have HR := Lib.hid (HAny.out (by rw [HBad.out, decide_eq_true h2]))
            clear h2
            go_wp2
            go_ret
            exact ⟨by rw [HR.out]; rfl, HB2.out⟩
          · have h2I : ¬ (32768 : Int) < x.val.length := by omega
            have HV : Hid (badVal x = false) := Lib.hid (by rw [HBad.out, decide_eq_false h2])
            clear h2 gM
            go_wp2
            go_roundg (l.length - (k + 1))
            case measure => omega
            case rel => exact ⟨k + 1, by go_num, by omega, Nat.le_refl _, Lib.hid (fun j hj h => by
              rcases Nat.lt_or_ge j k with h3 | h3
              · exact HN.out j hj h3
              · obtain rfl : j = k := by omega
                rw [HX.out]; exact HV.out), HB2⟩
        · have hltI : ¬ (k : Int) < l.length := by omega
          have HV : Hid (l.any badVal = false) := Lib.hid (by
            rw [List.any_eq_false]
            intro x hx
            obtain ⟨j, hj, rfl⟩ := List.mem_iff_getElem.1 hx
            rw [HN.out j hj (by omega)]
            simp)
          go_wp2
          go_ret
          exact ⟨by unfold chk; rw [HK.out, HV.out]; rfl, HB.out⟩

theorem room_any (g f m n c : Nat) (calls armed : Int) (down : Bool) (w : World) (h : Head w g f m n c calls armed down) (hn : 1 ≤ n) (hm : n ≤ 16384) : Calls Tryz.prog 48 #[.pointer (some ⟨g, 0, none⟩)] w fun e w' => e = .returned (.int .i64 (roomN n : Int)) ∧ w = w' := by
  have hs := sectors_head g f m n c calls armed down w h
  have hr : ((n : Int) - 1) / 2 = (roomN n : Int) := by unfold roomN; omega
  have HR := Lib.hid hr
  clear h hr
  go_enter Tryz.func48, Tryz.ntmps48
  go_wp2_with fail
  refine hs.mono ?_
  rintro e w2 ⟨rfl, rfl⟩
  go_wp2
  go_ret
  exact ⟨ret_int HR.out, rfl⟩
end Go.Proofs.YtmpklljiddggpaaGreatDoor

/-
  The walks of jour's front, sectors, first and of a head's encoding. Conditions: each theorem's own premises.
-/
namespace Go.Proofs.YtmpklljiddggpaaGreatDoor
open Go.Shelf Go.RowKit Go.Lib Go.Sort

theorem Own.mono {w : World} {base b' c : Nat} {A : Option Addr} {l : List UInt8} (h : Own w base A c l) (hb : b' ≤ base) : Own w b' A c l := by
  obtain ⟨h1, h2⟩ := h
  refine ⟨h1, ?_⟩
  rcases h2 with h2 | ⟨g, cap, cur, e, k1, k2⟩
  · exact .inl h2
  · exact .inr ⟨g, cap, cur, e, by omega, k2⟩
set_option maxRecDepth 100000 in
set_option maxHeartbeats 2000000 in
theorem front_any (x : Chg) (w : World) (hk : x.key.length ≤ 1000000) (hv : x.val.length ≤ 1000000) :
    Calls Tryz.prog 73 #[.agg #[.string ⟨x.key.toArray⟩, .string ⟨x.val.toArray⟩, .bool x.gone]] w (RetBytes w w.heap.size (frontC x)) := by
  have h3B : Below w.heap.size w (w.alloc (.cells #[.string ⟨x.key.toArray⟩, .string ⟨x.val.toArray⟩, .bool x.gone] 55)) := (Below.refl _ w).alloc (Nat.le_refl _) _
  have h3b : Blk (w.alloc (.cells #[.string ⟨x.key.toArray⟩, .string ⟨x.val.toArray⟩, .bool x.gone] 55)) w.heap.size 55 #[.string ⟨x.key.toArray⟩, .string ⟨x.val.toArray⟩, .bool x.gone] := heap_alloc_new w _
  have hp := putText_any none 0 0 [] (encT x.key) ⟨x.key.toArray⟩ (w.alloc (.cells #[.string ⟨x.key.toArray⟩, .string ⟨x.val.toArray⟩, .bool x.gone] 55)) rfl (by omega) Str.nil (by show x.key.toArray.size ≤ _; simp; omega) (by unfold encT; simp [ByteArray.size])
  have hkl : (encT x.key).length ≤ 1000010 := by unfold encT; have := enc_length (x.key.length : Int); simp; omega
  have HB3 := Lib.hid h3B
  have Hb3 := Lib.hid h3b
  have HP := Lib.hid hp
  have hW := h3b.lt
  clear h3B h3b hp
  go_enter Tryz.func73, Tryz.ntmps73
  go_wp2_with fail
  refine HP.out.mono ?_
  rintro e w1 ⟨A1, n1, c1, rfl, HN1, ho1, hB1⟩
  have hb1 := Hb3.out.below hB1 hW
  have HO1 := Lib.hid ho1
  have Hb1 := Lib.hid hb1
  have HB1 := Lib.hid (HB3.out.trans (hB1.mono HB3.out.size))
  have hw1 := hB1.size
  have hn1 : n1 ≤ 1000010 := by have := HN1.out; omega
  have d1 : w1.cell? ⟨w.heap.size, 1, none⟩ = some (.string ⟨x.val.toArray⟩) := hb1.cell 1
  have d2 : w1.cell? ⟨w.heap.size, 2, none⟩ = some (.bool x.gone) := hb1.cell 2
  have hwl1 := hb1.lt
  clear ho1 hB1 hb1 HP hkl
  cases hg : x.gone
  · have HF : Hid (frontC x = encT x.key ++ enc 0 ++ enc (x.val.length : Int)) := Lib.hid (by unfold frontC; rw [hg]; rfl)
    rw [hg] at d2
    clear hg
    go_wp2_with fail
    have hp1 := put_any A1 n1 c1 (encT x.key) 0 w1.drew HN1.out (by omega) (HO1.out.str.keep fun _ _ => rfl) (by omega) (by omega)
    go_region_held3 (fun W => W.cell? ⟨w.heap.size, 1, none⟩ = some (.string ⟨x.val.toArray⟩)) (go_keep)
      (first
        | (go_at_call_of 78 (Value.int .i64 0); refine hp1.mono ?_; rintro e w2 ⟨A2, n2, c2, rfl, HN2, ho2, hB2⟩; have HO2 := Lib.hid ho2; have HB2 := Lib.hid hB2; have k1 : w2.cell? ⟨w.heap.size, 1, none⟩ = some (.string ⟨x.val.toArray⟩) := (hB2.cell (p := ⟨w.heap.size, 1, none⟩) hwl1).trans d1; have hn2 : n2 ≤ 1000020 := (by have h1 := HN2.out; have := HN1.out; have := enc_length 0; rw [List.length_append] at h1; omega); clear ho2 hB2)
        | (go_at_call 78; refine (put_any A2 n2 c2 (encT x.key ++ enc 0) (x.val.length : Int) w2 HN2.out (by omega) HO2.out.str (by omega) (by omega)).mono ?_; rintro e w3 ⟨A3, n3, c3, rfl, HN3, ho3, hB3⟩; have HO3 := Lib.hid ho3; have HB3' := Lib.hid hB3; have k2 : w3.cell? ⟨w.heap.size, 1, none⟩ = some (.string ⟨x.val.toArray⟩) := (hB3.cell (p := ⟨w.heap.size, 1, none⟩) (Nat.lt_of_lt_of_le hwl1 HB2.out.size)).trans k1; clear ho3 hB3))
    go_wp2
    go_ret
    rw [HF.out]
    have hB : Below w.heap.size w w3 := HB1.out.trans (((bl_drew w1 1).mono HB1.out.size).trans ((HB2.out.mono (Nat.le_trans HB1.out.size (Nat.le_refl _))).trans (HB3'.out.mono (Nat.le_trans HB1.out.size HB2.out.size))))
    exact ⟨A3, n3, c3, rfl, HN3, Own.mono HO3.out (Nat.le_trans HB1.out.size HB2.out.size), hB⟩
  · have HF : Hid (frontC x = encT x.key ++ enc 1) := Lib.hid (by unfold frontC; rw [hg]; rfl)
    rw [hg] at d2
    clear hg
    go_wp2_with fail
    refine (put_any A1 n1 c1 (encT x.key) 1 w1 HN1.out (by omega) HO1.out.str (by omega) (by omega)).mono ?_
    rintro e w2 ⟨A2, n2, c2, rfl, HN2, ho2, hB2⟩
    go_wp2
    go_ret
    rw [HF.out]
    exact ⟨A2, n2, c2, rfl, HN2, Own.mono ho2 HB1.out.size, HB1.out.trans (hB2.mono HB1.out.size)⟩
end Go.Proofs.YtmpklljiddggpaaGreatDoor

/-
  The walks of jour's sectors, encoded, first and of a head's encoding. Conditions: each theorem's own premises.
-/
namespace Go.Proofs.YtmpklljiddggpaaGreatDoor
open Go.Shelf Go.RowKit Go.Lib Go.Sort

theorem encL_take_succ {l : List Chg} {k : Nat} (h : k < l.length) : encL (l.take (k + 1)) = encL (l.take k) ++ (frontC l[k] ++ l[k].val) := by
  rw [List.take_succ_eq_append_getElem h, encL_append]
  simp [encL, encC1]
theorem encL_length_le {l : List Chg} (h : ∀ c ∈ l, OkC c) : (encL l).length ≤ l.length * 33000 := by
  induction l with
  | nil => simp [encL]
  | cons c r ih =>
    have h1 := h c (by simp)
    have h2 := front_length h1
    have h3 := ih fun x hx => h x (by simp [hx])
    have := h1.k2
    have := h1.v
    simp only [encL, encC1, List.length_append, List.length_cons]
    omega
theorem encL_take_le (l : List Chg) (k : Nat) : (encL (l.take k)).length ≤ (encL l).length := by
  have : encL l = encL (l.take k) ++ encL (l.drop k) := by rw [← encL_append, List.take_append_drop]
  rw [this]
  simp

set_option maxRecDepth 100000 in
set_option maxHeartbeats 2000000 in
theorem sectors_any (A : Option Addr) (c B : Nat) (l : List Chg) (w : World) (hC : Chs w B A l) (hB : B ≤ w.heap.size) (hok : ∀ c ∈ l, OkC c) (hl : l.length ≤ 1000000) :
    Calls Tryz.prog 47 #[.slice A l.length c] w fun e w' => e = .returned (.int .i64 (secs l : Int)) ∧ Below w.heap.size w w' := by
  have HC := Lib.hid hC
  have HO := Lib.hid hok
  have HLen := Lib.hid (encL_length_le hok)
  clear hC hok
  go_enter Tryz.func47, Tryz.ntmps47
  go_wp2
  go_loopg [3, 5, 8] l.length (fun kx s3 s5 s8 wr => ∃ k z : Nat, s3 = .int .i64 z ∧ s8 = .int .i64 k ∧ k ≤ l.length ∧ l.length - k ≤ kx ∧ Hid (z = (encL (l.take k)).length) ∧ Hid (Below w.heap.size w wr))
  case atStart => exact ⟨0, 0, rfl, rfl, by omega, by omega, Lib.hid rfl, Lib.hid (Below.refl _ _)⟩
  case round =>
    obtain ⟨k, z, rfl, rfl, hkn, hkx, HZ, HB⟩ := hrel
    have hzb : z ≤ 33000000000 := by have := HZ.out; have := encL_take_le l k; have := HLen.out; omega
    by_cases hlt : k < l.length
    · have hltI : (k : Int) < l.length := by omega
      obtain ⟨ad, rfl, hbl, p0, p1, p2⟩ := (HC.out.below (HB.out.mono hB)).pick hlt
      have hx1 := HO.out _ (List.getElem_mem hlt)
      have hxf := front_length hx1
      have hst := encL_take_succ hlt
      generalize l[k] = x at *
      have hxk := hx1.k2
      have hxv := hx1.v
      have HSt := Lib.hid hst
      clear hst hx1
      go_wp2_with fail
      have h3B : Below wr.heap.size wr (wr.alloc (.cells #[.string ⟨x.key.toArray⟩, .string ⟨x.val.toArray⟩, .bool x.gone] 55)) := (Below.refl _ wr).alloc (Nat.le_refl _) _
      have h3b : Blk (wr.alloc (.cells #[.string ⟨x.key.toArray⟩, .string ⟨x.val.toArray⟩, .bool x.gone] 55)) wr.heap.size 55 #[.string ⟨x.key.toArray⟩, .string ⟨x.val.toArray⟩, .bool x.gone] := heap_alloc_new wr _
      have HB3 := Lib.hid (HB.out.trans (h3B.mono HB.out.size))
      generalize (wr.alloc (.cells #[.string ⟨x.key.toArray⟩, .string ⟨x.val.toArray⟩, .bool x.gone] 55)) = W at *
      have b0 : W.cell? ⟨wr.heap.size, 0, none⟩ = some (.string ⟨x.key.toArray⟩) := h3b.cell 0
      have b1 : W.cell? ⟨wr.heap.size, 1, none⟩ = some (.string ⟨x.val.toArray⟩) := h3b.cell 1
      have b2 : W.cell? ⟨wr.heap.size, 2, none⟩ = some (.bool x.gone) := h3b.cell 2
      have hWl := h3b.lt
      have hfr := front_any x W.drew (by omega) (by omega)
      have hsum : ∀ n : Nat, n = (frontC x).length → IntKind.i64.wrap ((n : Int) + (x.val.length : Int)) = (n : Int) + (x.val.length : Int) ∧ IntKind.i64.wrap ((z : Int) + ((n : Int) + (x.val.length : Int))) = (z : Int) + ((n : Int) + (x.val.length : Int)) := fun n hn => by
        rw [IntKind.wrap_i64, IntKind.wrap_i64]
        omega
      have HSum := Lib.hid hsum
      clear h3B h3b HB hsum p0 p1 p2
      go_region_held3 (fun W => W.cell? ⟨wr.heap.size, 0, none⟩ = some (.string ⟨x.key.toArray⟩) ∧ W.cell? ⟨wr.heap.size, 1, none⟩ = some (.string ⟨x.val.toArray⟩) ∧ W.cell? ⟨wr.heap.size, 2, none⟩ = some (.bool x.gone)) (go_keep)
        (first
          | (go_at_call 73; refine hfr.mono ?_; rintro e w2 ⟨A2, n2, c2, rfl, HN2, ho2, hB2⟩; obtain ⟨q1, q2⟩ := HSum.out n2 HN2.out; have k0 : w2.cell? ⟨wr.heap.size, 0, none⟩ = some (.string ⟨x.key.toArray⟩) := (hB2.cell (p := ⟨wr.heap.size, 0, none⟩) hWl).trans b0; have k1 : w2.cell? ⟨wr.heap.size, 1, none⟩ = some (.string ⟨x.val.toArray⟩) := (hB2.cell (p := ⟨wr.heap.size, 1, none⟩) hWl).trans b1; have k2 : w2.cell? ⟨wr.heap.size, 2, none⟩ = some (.bool x.gone) := (hB2.cell (p := ⟨wr.heap.size, 2, none⟩) hWl).trans b2; have HB4 := Lib.hid (HB3.out.trans (((bl_drew W 1).mono HB3.out.size).trans (hB2.mono HB3.out.size))); clear ho2 hB2))
      clear b0 b1 b2 k0 k1 k2 q1 q2 hfr
      go_wp2
      go_roundg (l.length - (k + 1))
      case measure => omega
      case rel => exact ⟨k + 1, z + (n2 + x.val.length), by go_num, by go_num, by omega, Nat.le_refl _, Lib.hid (by rw [HSt.out, HZ.out, HN2.out]; simp), HB4⟩
    · have hltI : ¬ (k : Int) < l.length := by omega
      have HR : Hid (((z : Int) + 128 - 1) / 128 = (secs l : Int)) := Lib.hid (by
        have h1 := HZ.out
        rw [List.take_of_length_le (by omega)] at h1
        unfold secs
        omega)
      go_wp2
      go_ret
      exact ⟨ret_int HR.out, HB.out⟩
end Go.Proofs.YtmpklljiddggpaaGreatDoor

/-
  The walks of jour's encoded, first and of a head's encoding. Conditions: each theorem's own premises.
-/
namespace Go.Proofs.YtmpklljiddggpaaGreatDoor
open Go.Shelf Go.RowKit Go.Lib Go.Sort

/-- The call's own bytes, as a value. -/
def OwnB (w : World) (base : Nat) (v : Value) (l : List UInt8) : Prop := w.ownsRow base 5 1 v l.length (l.map byt)
theorem OwnB.nil (w : World) (base : Nat) : OwnB w base (.slice none 0 0) [] := ⟨rfl, .inl ⟨rfl, rfl⟩⟩
theorem OwnB.own {w : World} {base : Nat} {v : Value} {l : List UInt8} (h : OwnB w base v l) : ∃ A c, v = .slice A l.length c ∧ Own w base A c l := by
  rcases h.2 with ⟨rfl, h0⟩ | ⟨g, cap, cur, rfl, _⟩
  · refine ⟨none, 0, by rw [h0], ?_⟩
    unfold Own
    rw [h0]
    unfold OwnB at h
    rw [h0] at h
    exact h
  · exact ⟨_, _, rfl, h⟩
theorem OwnB.block {w : World} {base : Nat} {v : Value} {l : List UInt8} (h : OwnB w base v l) : ∀ k, v.ownBlock = some k → base ≤ k ∧ k < w.heap.size := World.ownsRow.lt h
theorem OwnB.keep {w w' : World} {base : Nat} {v : Value} {l : List UInt8} (h : OwnB w base v l) (hk : ∀ g, v.ownBlock = some g → w'.heap[g]? = w.heap[g]?) : OwnB w' base v l := by
  obtain ⟨h1, h2⟩ := h
  refine ⟨h1, ?_⟩
  rcases h2 with h2 | ⟨g, cap, cur, rfl, k1, k2, k3⟩
  · exact .inl h2
  · exact .inr ⟨g, cap, cur, rfl, k1, (hk g rfl).trans k2, k3⟩
theorem OwnB.below {B : Nat} {w w' : World} {base : Nat} {v : Value} {l : List UInt8} (h : OwnB w base v l) (hb : Below B w w') (hB : w.heap.size ≤ B) : OwnB w' base v l := h.keep fun g hg => hb.block g (by have := (h.block g hg).2; omega)

theorem OwnB.ne {w : World} {base g : Nat} {v : Value} {l : List UInt8} {t : TypeId} {cs : Array Value} (h : OwnB w base v l) (hb : Blk w g t cs) (ht : t ≠ 5) : some g ≠ v.ownBlock := by
  rcases h.2 with ⟨rfl, _⟩ | ⟨g', cap, cur, rfl, k1, k2, k3⟩
  · simp [Value.ownBlock]
  · intro e
    simp [Value.ownBlock] at e
    subst e
    unfold Blk at hb
    rw [k2] at hb
    cases hb
    exact ht rfl
theorem append_bytes {w : World} {base : Nat} {v : Value} {l l2 : List UInt8} {A : Option Addr} {n c B : Nat} (h : OwnB w base v l) (hc : Str w B A l2) (hn : n = l2.length) (hz : A = none → c = 0) (hle : l.length + l2.length ≤ 1099511627776) (hb : base ≤ w.heap.size) :
    ∃ v' w', (∀ ty, (Builtin.append_ #[88, 88] ty #[v, .slice A n c]).run Tryz.prog w = .ok v' w') ∧ OwnB w' base v' (l ++ l2) ∧ w.grownBy w' v.ownBlock := by
  obtain ⟨i0, hi, hz0, hz1, hz2⟩ := info_parts Tryz.info8
  subst hn
  rcases A with _ | ad
  · have hl0 : l2 = [] := by
      rcases l2 with _ | ⟨u, l2⟩
      · rfl
      · obtain ⟨ad, h, _⟩ := hc.here (by simp)
        cases h
    subst hl0
    rw [hz rfl]
    refine ⟨v, w, fun ty => ?_, by simpa using h, World.grownBy.refl w _⟩
    rcases h.2 with ⟨rfl, _⟩ | ⟨g, cap, cs, rfl, _, _, h1, _⟩
    · simp [Builtin.append_, run_underlying Tryz.underlying88, sizeOf, typeInfo, hi, Builtin.lenOf, Builtin.firstCells]
    · simp [Builtin.append_, run_underlying Tryz.underlying88, sizeOf, typeInfo, hi, Builtin.lenOf, Builtin.firstCells, h1, storeCells]
  · obtain ⟨v', w', hrun, ho, hg, _, _⟩ := run_append_own_at (P := Tryz.prog) w base 88 0 5 i0 _ 1 1 Tryz.underlying88 hi hz0 hz1 hz2 rfl (by omega) v l.length (l.map byt) h ad l2.length c (l2.map byt) (by simp)
      (fun j u hu => by
        rw [List.getElem?_map] at hu
        obtain ⟨y, hy, rfl⟩ := Option.map_eq_some_iff.1 hu
        obtain ⟨ad', e, _, hc⟩ := hc.here (by rintro rfl; simp at hy)
        cases e
        exact hc j y hy) (byt_one l2) (by simp [maxLen]; omega) (by omega) hb
    refine ⟨v', w', fun ty => hrun, ?_, hg⟩
    unfold OwnB
    rw [List.length_append, List.map_append]
    exact ho
theorem append_strv {w : World} {base : Nat} {v : Value} {l s : List UInt8} (h : OwnB w base v l) (hle : l.length + s.length ≤ 1099511627776) (hb : base ≤ w.heap.size) :
    ∃ v' w', (∀ ty, (Builtin.append_ #[88, 9] ty #[v, .string ⟨s.toArray⟩]).run Tryz.prog w = .ok v' w') ∧ OwnB w' base v' (l ++ s) ∧ w.grownBy w' v.ownBlock := by
  obtain ⟨i0, hi, hz0, hz1, hz2⟩ := info_parts Tryz.info8
  have hss : (⟨s.toArray⟩ : ByteArray).size = s.length := by show s.toArray.size = _; simp
  obtain ⟨v', w', hrun, ho, hg, _⟩ := run_append_own_string (P := Tryz.prog) w base 88 9 0 5 i0 Tryz.underlying88 Tryz.underlying9 hi hz0 hz1 hz2 v l.length (l.map byt) h ⟨s.toArray⟩ (by rw [hss]; simp [maxLen]; omega) (by rw [hss]; omega) hb
  refine ⟨v', w', fun ty => hrun, ?_, hg⟩
  unfold OwnB
  rw [List.length_append, List.map_append]
  rw [hss] at ho
  exact ho
theorem step_append_run {P : Program} {ops : Array Oper} {o : Oper} {a : Act} {w : World} {K : Act → World → Prop} {Q : Exit → Act → World → Prop} {E : Prop} (hgd : o.guard = none) (s x : Operand) (t tn : TypeId)
    (ho : o.op = .call { callee := .builtin .append, args := #[s, x], argTypes := #[t, tn] }) (vs vx : Value) (hs : a.eval s = vs) (hx : a.eval x = vx)
    (v' : Value) (w' : World) (hr : (Builtin.append_ #[t, tn] o.type #[vs, vx]).run P w = .ok v' w') (h : K (a.put o.dst v') w') :
    if Region.wanted o (yielded ops a.tmps) = true then Oper.wp P o a w K Q else E := by
  have hw : Region.wanted o (yielded ops a.tmps) = true := by simp [Region.wanted, hgd]
  rw [if_pos hw]
  exact wp_append_run w s x t tn ho vs vx hs hx v' w' hr h

set_option maxRecDepth 100000 in
set_option maxHeartbeats 2000000 in
theorem encoded_any (A : Option Addr) (c B : Nat) (l : List Chg) (w : World) (hC : Chs w B A l) (hB : B ≤ w.heap.size) (hok : ∀ c ∈ l, OkC c) (hl : l.length ≤ 1000000) :
    Calls Tryz.prog 50 #[.slice A l.length c] w (RetBytes w w.heap.size (encL l)) := by
  have HC := Lib.hid hC
  have HO := Lib.hid hok
  have HLen := Lib.hid (encL_length_le hok)
  clear hC hok
  go_enter Tryz.func50, Tryz.ntmps50
  go_wp2
  go_loopg [3, 5, 8] l.length (fun kx s3 s5 s8 wr => ∃ k : Nat, s8 = .int .i64 k ∧ k ≤ l.length ∧ l.length - k ≤ kx ∧ Hid (OwnB wr w.heap.size s3 (encL (l.take k))) ∧ Hid (Below w.heap.size w wr))
  case atStart => exact ⟨0, rfl, by omega, by omega, Lib.hid (OwnB.nil _ _), Lib.hid (Below.refl _ _)⟩
  case round =>
    obtain ⟨k, rfl, hkn, hkx, HZ, HB⟩ := hrel
    by_cases hlt : k < l.length
    · have hltI : (k : Int) < l.length := by omega
      have hzb : (encL (l.take k)).length ≤ 33000000000 := by have := encL_take_le l k; have := HLen.out; omega
      obtain ⟨ad, rfl, hbl, p0, p1, p2⟩ := (HC.out.below (HB.out.mono hB)).pick hlt
      have hx1 := HO.out _ (List.getElem_mem hlt)
      have hxf := front_length hx1
      have hst := encL_take_succ hlt
      generalize l[k] = x at *
      have hxk := hx1.k2
      have hxv := hx1.v
      have HSt := Lib.hid hst
      clear hst hx1
      go_wp2_with fail
      have h3B : Below wr.heap.size wr (wr.alloc (.cells #[.string ⟨x.key.toArray⟩, .string ⟨x.val.toArray⟩, .bool x.gone] 55)) := (Below.refl _ wr).alloc (Nat.le_refl _) _
      have h3b : Blk (wr.alloc (.cells #[.string ⟨x.key.toArray⟩, .string ⟨x.val.toArray⟩, .bool x.gone] 55)) wr.heap.size 55 #[.string ⟨x.key.toArray⟩, .string ⟨x.val.toArray⟩, .bool x.gone] := heap_alloc_new wr _
      have HB3 := Lib.hid (HB.out.trans (h3B.mono HB.out.size))
      have HZ3 := Lib.hid (HZ.out.below h3B (Nat.le_refl _))
      generalize (wr.alloc (.cells #[.string ⟨x.key.toArray⟩, .string ⟨x.val.toArray⟩, .bool x.gone] 55)) = W at *
      have b0 : W.cell? ⟨wr.heap.size, 0, none⟩ = some (.string ⟨x.key.toArray⟩) := h3b.cell 0
      have b1 : W.cell? ⟨wr.heap.size, 1, none⟩ = some (.string ⟨x.val.toArray⟩) := h3b.cell 1
      have b2 : W.cell? ⟨wr.heap.size, 2, none⟩ = some (.bool x.gone) := h3b.cell 2
      have hWl := h3b.lt
      have hfr := front_any x W.drew (by omega) (by omega)
      have HSZ := Lib.hid HB3.out.size
      have Hx := Lib.hid h3b
      clear h3B h3b HB HZ p0 p1 p2
      go_region_held3 (fun W => W.cell? ⟨wr.heap.size, 0, none⟩ = some (.string ⟨x.key.toArray⟩) ∧ W.cell? ⟨wr.heap.size, 1, none⟩ = some (.string ⟨x.val.toArray⟩) ∧ W.cell? ⟨wr.heap.size, 2, none⟩ = some (.bool x.gone)) (go_keep)
        (first
          | (go_at_call 73; refine hfr.mono ?_; rintro e w2 ⟨A2, n2, c2, rfl, HN2, ho2, hB2⟩; have k0 : w2.cell? ⟨wr.heap.size, 0, none⟩ = some (.string ⟨x.key.toArray⟩) := (hB2.cell (p := ⟨wr.heap.size, 0, none⟩) hWl).trans b0; have k1 : w2.cell? ⟨wr.heap.size, 1, none⟩ = some (.string ⟨x.val.toArray⟩) := (hB2.cell (p := ⟨wr.heap.size, 1, none⟩) hWl).trans b1; have k2 : w2.cell? ⟨wr.heap.size, 2, none⟩ = some (.bool x.gone) := (hB2.cell (p := ⟨wr.heap.size, 2, none⟩) hWl).trans b2; have HB4 := Lib.hid (HB3.out.trans (((bl_drew W 1).mono HB3.out.size).trans (hB2.mono HB3.out.size))); have HZ4 := Lib.hid (OwnB.below (w := W.drew) HZ3.out hB2 (Nat.le_refl _)); have hW2 : W.heap.size ≤ w2.heap.size := hB2.size; have Hx2 := Lib.hid (Blk.below (w := W.drew) Hx.out hB2 hWl); obtain ⟨v5, w5, hrun5, hO5, hg5⟩ := append_bytes HZ4.out ho2.str HN2.out (fun e => by rcases ho2.form with ⟨_, hc, _⟩ | ⟨g, hA, _⟩; exact hc; rw [hA] at e; cases e) (by omega) HB4.out.size; have HO5 := Lib.hid hO5; have HB5 := Lib.hid (HB4.out.grown hg5 HB4.out.size (fun j hj => (HZ4.out.block j hj).1)); have hx5 := Hx2.out.grown hg5 (HZ4.out.ne Hx2.out (by decide)); have m0 : w5.cell? ⟨wr.heap.size, 0, none⟩ = some (.string ⟨x.key.toArray⟩) := hx5.cell 0; have m1 : w5.cell? ⟨wr.heap.size, 1, none⟩ = some (.string ⟨x.val.toArray⟩) := hx5.cell 1; have m2 : w5.cell? ⟨wr.heap.size, 2, none⟩ = some (.bool x.gone) := hx5.cell 2; obtain ⟨v6, w6, hrun6, hO6, hg6⟩ := append_strv (s := x.val) HO5.out (by simp; omega) HB5.out.size; have HO6 := Lib.hid hO6; have HB6 := Lib.hid (HB5.out.grown hg6 HB5.out.size (fun j hj => (HO5.out.block j hj).1)); have hx6 := hx5.grown hg6 (HO5.out.ne hx5 (by decide)); have r0 : w6.cell? ⟨wr.heap.size, 0, none⟩ = some (.string ⟨x.key.toArray⟩) := hx6.cell 0; have r1 : w6.cell? ⟨wr.heap.size, 1, none⟩ = some (.string ⟨x.val.toArray⟩) := hx6.cell 1; have r2 : w6.cell? ⟨wr.heap.size, 2, none⟩ = some (.bool x.gone) := hx6.cell 2; clear hx5 hx6 ho2 hB2 hO5 hg5 hO6 hg6)
          | (refine step_append_run rfl _ _ 88 88 rfl _ _ rfl rfl _ _ (hrun5 _) ?_)
          | (refine step_append_run rfl _ _ 88 9 rfl _ _ rfl rfl _ _ (hrun6 _) ?_))
      go_wp2
      go_roundg (l.length - (k + 1))
      case measure => omega
      case rel => exact ⟨k + 1, by go_num, by omega, Nat.le_refl _, Lib.hid (by rw [HSt.out, ← List.append_assoc]; exact HO6.out), HB6⟩
    · have hltI : ¬ (k : Int) < l.length := by omega
      go_wp2
      go_ret
      have h1 := HZ.out
      rw [List.take_of_length_le (by omega)] at h1
      obtain ⟨A2, c2, rfl, ho⟩ := h1.own
      exact ⟨A2, _, c2, rfl, Lib.hid rfl, ho, HB.out⟩
end Go.Proofs.YtmpklljiddggpaaGreatDoor
