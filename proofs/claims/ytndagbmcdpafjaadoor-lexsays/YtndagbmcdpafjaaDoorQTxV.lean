/-
  The walks of control, HasPrefix and Valid. Conditions: each theorem's own premises.
-/
import Derived.Test.YtndagbmcdpafjaaDoorQTxF
import Derived.Test.YtndagbmcdpafjaaDoorQDkSee
namespace Go.Proofs.YtndagbmcdpafjaaDoor
open Go.Shelf Go.RowKit Go.Lib

/-- May a rune not stand in a text? -/
def ctlB (r : Int) : Bool := decide (r < 32 ∧ r ≠ 9 ∧ r ≠ 10 ∨ r = 127)
theorem ctl_ways (r : Int) : (r < 32 ∧ (r != 9) = true ∧ (r != 10) = true ∧ ctlB r = true) ∨ (r < 32 ∧ (r != 9) = false ∧ (r == 127) = false ∧ ctlB r = false) ∨ (r < 32 ∧ (r != 9) = true ∧ (r != 10) = false ∧ (r == 127) = false ∧ ctlB r = false) ∨ (32 ≤ r ∧ (r == 127) = true ∧ ctlB r = true) ∨ (32 ≤ r ∧ (r == 127) = false ∧ ctlB r = false) := by
  simp only [ctlB, decide_eq_true_eq, decide_eq_false_iff_not, beq_iff_eq, beq_eq_false_iff_ne, bne_iff_ne, bne_eq_false_iff_eq]
  omega
set_option maxHeartbeats 400000 in
theorem control_any (r : Int) (w : World) : Calls Tryd.prog 80 #[.int .i32 r] w (RetKb w (ctlB r)) := by
  rcases ctl_ways r with ⟨h1, h2, h3, h⟩ | ⟨h1, h2, h3, h⟩ | ⟨h1, h2, h3, h4, h⟩ | ⟨h1, h2, h⟩ | ⟨h1, h2, h⟩
  all_goals
    rw [h]
    clear h
    go_enter Tryd.func80, Tryd.ntmps80
    go_wp2
    go_ret
    first
      | exact ⟨rfl, rfl⟩
      | exact ⟨ret_bool (by simp_all), rfl⟩

/-- Do bytes begin with the encoding of 0xfffd? -/
def pfB (l : List UInt8) : Bool := decide (l.take 3 = [239, 191, 189])
set_option maxRecDepth 100000 in
set_option maxHeartbeats 400000 in
theorem prefix_lite (s : ByteArray) (w : World) : Calls Tryd.prog 112 #[.string s, .string ⟨#[239, 191, 189]⟩] w (RetKb w (pfB s.data.toList)) := by
  by_cases h : 3 ≤ s.size
  · have hx : ((s.extract 0 3).toList == [239, 191, 189]) = pfB s.data.toList := by
      rw [ByteArray.toList_eq, ByteArray.data_extract, Array.toList_extract]
      unfold pfB
      simp only [List.extract, List.drop_zero, Nat.sub_zero]
      by_cases e : s.data.toList.take 3 = [239, 191, 189]
      · rw [e]; rfl
      · rw [decide_eq_false e]
        exact beq_eq_false_iff_ne.2 e
    cases hp : pfB s.data.toList
    all_goals
      rw [hp] at hx
      clear hp
      go_enter Tryd.func112, Tryd.ntmps112
      go_wp2
      go_ret
      first
        | exact ⟨rfl, rfl⟩
        | exact ⟨ret_bool (by simp_all), rfl⟩
  · have hp : pfB s.data.toList = false := decide_eq_false fun e => by
      have := congrArg List.length e
      simp at this
      omega
    rw [hp]
    clear hp
    go_enter Tryd.func112, Tryd.ntmps112
    go_wp2
    go_ret
    exact ⟨rfl, rfl⟩
theorem prefix_any (s : ByteArray) (w : World) : Calls Tryd.prog 81 #[.string s, .string ⟨#[239, 191, 189]⟩] w (RetKb w (pfB s.data.toList)) := by
  have H := Lib.hid (prefix_lite s w)
  go_enter Tryd.func81, Tryd.ntmps81
  go_wp2_with fail
  refine H.out.mono ?_
  rintro e w' ⟨rfl, rfl⟩
  go_wp2
  go_ret
  exact ⟨rfl, rfl⟩

/-- Is a rune of a text, with its width, one that may not be? -/
def badD (d : Nat × Nat) : Bool := ctlB d.1 || decide (d = (65533, 1))
theorem dec_fffd (l : List UInt8) (h : (dec l).1 = 65533) : pfB l = !decide (dec l = (65533, 1)) := by
  by_cases hp : l.take 3 = [239, 191, 189]
  · have hl : l = [239, 191, 189] ++ l.drop 3 := by rw [← hp, List.take_append_drop]
    have hd : dec l = (65533, 3) := by rw [hl]; simp [dec, decodeN]
    rw [hd]
    simp [pfB, hp]
  · rw [pfB, decide_eq_false hp]
    have hd : dec l = (65533, 1) := by
      have h0 := UInt8.toNat_lt (l[0]?.getD 0)
      have h1 := UInt8.toNat_lt (l[1]?.getD 0)
      have h2 := UInt8.toNat_lt (l[2]?.getD 0)
      have key : ¬ (2 < l.length ∧ (l[0]?.getD 0).toNat = 239 ∧ (l[1]?.getD 0).toNat = 191 ∧ (l[2]?.getD 0).toNat = 189) := by
        rintro ⟨k, k0, k1, k2⟩
        apply hp
        match l, k, k0, k1, k2 with
        | a :: b :: c :: t, _, k0, k1, k2 =>
          have e0 : a = 239 := UInt8.toNat_inj.1 k0
          have e1 : b = 191 := UInt8.toNat_inj.1 k1
          have e2 : c = 189 := UInt8.toNat_inj.1 k2
          rw [e0, e1, e2]
          rfl
      generalize ha : (l[0]?.getD 0).toNat = a at *
      generalize hb : (l[1]?.getD 0).toNat = b at *
      generalize hc : (l[2]?.getD 0).toNat = c at *
      generalize hd' : (l[3]?.getD 0).toNat = d at *
      unfold dec decodeN at h ⊢
      rw [ha, hb, hc, hd'] at h ⊢
      clear ha hb hc hd' hp
      split at h
      · simp at h; omega
      · rename_i g1
        rw [if_neg g1]
        split at h
        · rename_i g2
          rw [if_pos g2]
          split at h
          · rename_i g3
            rw [if_pos g3]
            simp at h
            omega
          · rename_i g3
            rw [if_neg g3]
        · rename_i g2
          rw [if_neg g2]
          split at h
          · rename_i g3
            rw [if_pos g3]
            split at h
            · rename_i g4
              exfalso
              simp at h
              omega
            · rename_i g4
              rw [if_neg g4]
          · rename_i g3
            rw [if_neg g3]
            split at h
            · rename_i g4
              rw [if_pos g4]
              split at h
              · rename_i g5
                exfalso
                simp at h
                omega
              · rename_i g5
                rw [if_neg g5]
            · rename_i g4
              rw [if_neg g4]
    rw [hd]
    simp
/-- The first that may not be stands at this place. -/
def badAt (s : ByteArray) (p : Nat) : Prop := ∃ a d r, pcs s.data.toList = a ++ d :: r ∧ a.length = p ∧ (∀ x ∈ a, badD x = false) ∧ badD d = true
def noBad (s : ByteArray) : Prop := ∀ d ∈ pcs s.data.toList, badD d = false
/-- What Valid leaves. -/
def RetVal (w : World) (s : ByteArray) (aR : Addr) (e : Ending) (w' : World) : Prop :=
  Below w.heap.size w w' ∧ ((noBad s ∧ e = .returned .nilIface) ∨ ∃ p b, badAt s p ∧ e = .returned (.iface 85 (.pointer (some ⟨b, 0, none⟩))) ∧ Blk w' b 87 #[.int .i64 (p : Int), .iface 186 (.pointer (some aR))])
theorem badAt_one {s : ByteArray} {p q : Nat} (h : badAt s p) (k : badAt s q) : p = q := by
  obtain ⟨a, d, r, h1, rfl, h2, h3⟩ := h
  obtain ⟨b, x, t, k1, rfl, k2, k3⟩ := k
  rw [h1] at k1
  have e1 := takeWhile_stop (fun x => !badD x) a d r (fun y hy => by simp [h2 y hy]) (by simp [h3])
  have e2 := takeWhile_stop (fun x => !badD x) b x t (fun y hy => by simp [k2 y hy]) (by simp [k3])
  rw [k1, e2] at e1
  rw [e1]
theorem badAt_not {s : ByteArray} {p : Nat} (h : badAt s p) : ¬ noBad s := by
  obtain ⟨a, d, r, h1, _, _, h3⟩ := h
  intro hn
  have := hn d (by rw [h1]; simp)
  rw [h3] at this
  cases this

/-- Where its loop stands. -/
def VaRel (w : World) (s : ByteArray) (x : Value) (wr : World) : Prop :=
  ∃ (k : Nat) (a : List (Nat × Nat)), k ≤ s.size ∧ pcs s.data.toList = a ++ pcs (s.data.toList.drop k) ∧ (∀ d ∈ a, badD d = false) ∧ x = .int .i64 (a.length : Int) ∧ wr.heap[w.heap.size]? = some (.stringIter s k) ∧ Below w.heap.size w wr

set_option maxRecDepth 100000 in
set_option maxHeartbeats 2000000 in
theorem valid_any (s : ByteArray) (w : World) (aR : Addr) (hs : s.size ≤ 4096) (hR : w.cell? ⟨4, 0, none⟩ = some (.iface 186 (.pointer (some aR)))) : Calls Tryd.prog 52 #[.string s] w (RetVal w s aR) := by
  have HR := Lib.hid hR
  have HLt := Lib.hid (World.block_lt_of_cell? w _ hR)
  clear hR
  go_enter Tryd.func52, Tryd.ntmps52
  go_wp2
  go_loopw [3] (fun x wr => VaRel w s x wr) (fun _ wr => s.size - wr.iterPos w.heap.size)
  case atStart => exact ⟨0, [], by omega, by simp, by simp, rfl, World.iter_heap w s 0, (Below.refl _ _).alloc (Nat.le_refl _) _⟩
  case round =>
    obtain ⟨k, a, hk, hp, hn, rfl, hit, hB⟩ := hrel
    have HP := Lib.hid (iterPos_of hit)
    by_cases h : k < s.size
    · have hal : a.length ≤ s.size := by
        have := pcs_len s.data.toList
        rw [hp] at this
        simp at this
        omega
      have hd := pcs_drop s.data.toList k (by simpa using h)
      have hdl := dec_rune (s.data.toList.drop k)
      have hwd := dec_pos (s.data.toList.drop k)
      have hwl := dec_le (s.data.toList.drop k) (by intro e; have := congrArg List.length e; simp at this; omega)
      have hff := dec_fffd (s.data.toList.drop k)
      have hnx : ∀ ty, (Instr.next (.pointer (some ⟨w.heap.size, 0, none⟩)) true ty).run Tryd.prog wr = _ := fun ty => Lib.run_next_any_at wr w.heap.size s k ty hit h
      rw [decode_dec] at hnx
      obtain ⟨d, hdd⟩ : ∃ d, d = dec (s.data.toList.drop k) := ⟨_, rfl⟩
      rw [← hdd] at hd hdl hwd hwl hff hnx
      have hk2 : k + d.2 ≤ s.size := by simp at hwl; omega
      have hB2 := Lib.below_iterAt hB (k := w.heap.size) (Nat.le_refl _) s (k + d.2)
      have hit2 := Lib.iterAt_heap wr w.heap.size s k (k + d.2) hit
      obtain ⟨W1, hW1⟩ : ∃ W1, W1 = wr.iterAt w.heap.size s (k + d.2) := ⟨_, rfl⟩
      rw [← hW1] at hnx hB2 hit2
      have HB2 := Lib.hid hB2
      have HI2 := Lib.hid hit2
      have HPd : Hid (pcs s.data.toList = a ++ d :: pcs (s.data.toList.drop (k + d.2))) := Lib.hid (by rw [hp, hd])
      have HN := Lib.hid hn
      have hR1 : W1.cell? ⟨4, 0, none⟩ = some (.iface 186 (.pointer (some aR))) := (hB2.cell (p := ⟨4, 0, none⟩) HLt.out).trans HR.out
      have HPx : Hid (∀ W, Calls Tryd.prog 81 #[.string (s.extract k s.size), .string ⟨#[239, 191, 189]⟩] W (RetKb W (pfB (s.data.toList.drop k)))) := Lib.hid (fun W => by
        have := prefix_any (s.extract k s.size) W
        have e : (s.extract k s.size).data.toList = s.data.toList.drop k := by
          rw [ByteArray.data_extract, Array.toList_extract]
          simp only [List.extract]
          exact List.take_of_length_le (by simp)
        rw [e] at this
        exact this)
      have good : badD d = false → VaRel w s (.int .i64 ((a.length : Int) + 1)) W1 := fun hb => ⟨k + d.2, a ++ [d], hk2, by rw [HPd.out]; simp, fun x hx => by
        rcases List.mem_append.1 hx with hx | hx
        · exact HN.out x hx
        · simp at hx; subst hx; exact hb, by simp, HI2.out, HB2.out⟩
      have bad : badD d = true → badAt s a.length := fun hb => ⟨a, d, _, HPd.out, rfl, HN.out, hb⟩
      have HG := Lib.hid good
      have HBd := Lib.hid bad
      have HCt := Lib.hid (fun W => control_any (d.1 : Int) W)
      have HFf := Lib.hid hff
      clear good bad hff hdd hd hwl hit hB hp hn hB2 hit2 hW1
      cases hc : ctlB (d.1 : Int)
      · rw [hc] at HCt
        by_cases hf : d.1 = 65533
        · have hf' : ((d.1 : Int) == 65533) = true := by simp [hf]
          have hfx := HFf.out hf
          cases hpx : pfB (s.data.toList.drop k)
          · rw [hpx] at HPx hfx
            have HY := Lib.hid (HBd.out (by simp at hfx; simp [badD, hfx]))
            clear HBd HG hfx hpx hc hf HFf
            go_wp2_with fail
            refine (HCt.out _).mono ?_
            rintro e w' ⟨rfl, rfl⟩
            go_wp2_with fail
            refine (HPx.out _).mono ?_
            rintro e w' ⟨rfl, rfl⟩
            go_wp2
            go_ret
            exact ⟨HB2.out.alloc HB2.out.size _, .inr ⟨_, _, HY.out, rfl, heap_alloc_new _ _⟩⟩
          · rw [hpx] at HPx hfx
            have HY := Lib.hid (HG.out (by simp at hfx; simp [badD, hc, hfx]))
            clear HBd HG hfx hpx hc hf HFf
            go_wp2_with fail
            refine (HCt.out _).mono ?_
            rintro e w' ⟨rfl, rfl⟩
            go_wp2_with fail
            refine (HPx.out _).mono ?_
            rintro e w' ⟨rfl, rfl⟩
            go_wp2
            go_roundw
            case rel => exact HY.out
            case measure =>
              rw [iterPos_of HI2.out, HP.out]
              omega
        · have hf' : ((d.1 : Int) == 65533) = false := beq_eq_false_iff_ne.2 (by omega)
          have HY := Lib.hid (HG.out (by simp [badD, hc]; intro e; rw [e] at hf; exact hf rfl))
          clear HBd HG hc hf HFf HPx
          go_wp2_with fail
          refine (HCt.out _).mono ?_
          rintro e w' ⟨rfl, rfl⟩
          go_wp2
          go_roundw
          case rel => exact HY.out
          case measure =>
            rw [iterPos_of HI2.out, HP.out]
            omega
      · rw [hc] at HCt
        have HY := Lib.hid (HBd.out (by simp [badD, hc]))
        clear HBd HG hc HFf HPx
        go_wp2_with fail
        refine (HCt.out _).mono ?_
        rintro e w' ⟨rfl, rfl⟩
        go_wp2
        go_ret
        exact ⟨HB2.out.alloc HB2.out.size _, .inr ⟨_, _, HY.out, rfl, heap_alloc_new _ _⟩⟩
    · have hnx : ∀ ty, (Instr.next (.pointer (some ⟨w.heap.size, 0, none⟩)) true ty).run Tryd.prog wr = _ := fun ty => Lib.run_next_end_at wr w.heap.size s k ty hit h
      have HY : Hid (noBad s) := Lib.hid (by unfold noBad; rw [hp, pcs_end _ _ (by simpa using h)]; simpa using hn)
      clear hp hn
      go_wp2
      go_ret
      exact ⟨hB, .inl ⟨HY.out, rfl⟩⟩
end Go.Proofs.YtndagbmcdpafjaaDoor
