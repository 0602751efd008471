/-
  The walk of JourGoes. Conditions: each theorem's own premises.
-/
import Derived.Test.YtmpklljiddggpaaDoorQJpP
import Derived.Test.YtmpklljiddggpaaDoorQIta
import Derived.Deep.RegionWith
namespace Go.Proofs.YtmpklljiddggpaaDoor
open Go.Shelf Go.RowKit Go.Lib Go.Sort
attribute [local go_sem] Oper.semAt_some

/-- A byte of a number. -/
def lowB (i : Nat) : UInt8 := UInt8.ofNat i
theorem lowB_int (i : Nat) : byt (lowB i) = .int .u8 ((i : Int) % 256) := by
  unfold byt lowB
  rw [UInt8.toNat_ofNat']
  congr 1
/-- What is committed at one time. -/
def goC (i lg : Nat) : List Chg := [⟨[97], List.replicate lg (lowB i), false⟩, ⟨[110], dig i, false⟩]
/-- The records behind so many times. -/
def goR (lg : Nat) : Nat → List Chg
  | 0 => []
  | i + 1 => goC i lg
theorem goR_next (lg i : Nat) : aft (goR lg i ++ goC i lg) = goC i lg := by
  cases i with
  | zero => rfl
  | succ i => rfl
theorem goC_ok {i lg : Nat} (hi : i ≤ 1000) (hl : lg ≤ 200) : (goC i lg).any badKey = false ∧ (goC i lg).any badVal = false ∧ secs (goC i lg) ≤ roomN 120 := by
  have hd := dig_length (n := i) (by omega)
  have h1 : (goC i lg).any badKey = false := by simp [goC, badKey]
  have h2 : (goC i lg).any badVal = false := by simp [goC, badVal]; omega
  refine ⟨h1, h2, ?_⟩
  have h3 := encL_sum (l := goC i lg) fun c hc => by
    have := chk_ok h1 h2 c hc
    rcases List.mem_cons.1 hc with rfl | hc
    · exact this
    · obtain rfl := List.mem_singleton.1 hc
      exact this
  have h4 : sumC (goC i lg) = 1 + lg + 30 + (1 + (dig i).length + 30) := by simp [goC, sumC]
  unfold secs roomN
  omega
theorem goes_says {K i lg : Nat} {t : St} (h : Ok 120 K t) (hr : t.r = goR lg i) (hi : i ≤ 1000) (hl : lg ≤ 200) : (comm t (goC i lg)).1 = .fine ∧ (comm t (goC i lg)).2.r = goR lg (i + 1) := by
  obtain ⟨h1, h2, h3⟩ := goC_ok (i := i) (lg := lg) hi hl
  have he : aft (t.r ++ goC i lg) = goC i lg := by rw [hr, goR_next]
  have hf := h.fine h1 h2 (by rw [he]; simp [goC]) (by rw [he]; exact h3)
  exact ⟨hf, ((h.step (by omega) (goC i lg)).2.2.1 hf).trans he⟩
/-- Where JourGoes's loop stands. -/
def GoesI (w0 : World) (lg i g f sb : Nat) (wr : World) : Prop := ∃ m v t K, Sto w0 wr 120 K g f m sb v t ∧ t.r = goR lg i ∧ K ≤ i * 123

set_option maxRecDepth 100000 in
set_option maxHeartbeats 4000000 in
theorem jgoes_any (n long : Int) (w : World) (aE aS aR aC aF aM : Addr) (he : Errs w aE aS aR) (hE : Es w aR aC aF aM) (hT : Tab w) :
    Calls Tryd.prog 8 #[.int .i64 n, .int .i64 long] w (RetYes w) := by
  have HE := Lib.hid hE
  have He := Lib.hid he
  have HT := Lib.hid hT
  have hch := chap_any w _ _ _ _ _ _ He.out HE.out
  clear hE he hT
  go_enter Tryd.func8, Tryd.ntmps8
  go_wp2_with fail
  refine hch.mono ?_
  rintro e w1 ⟨rfl, hB1⟩
  have HB1 := Lib.hid hB1
  clear hch hB1
  have hnu := number_any n 400 w1 (by omega) (by omega)
  have hq : 0 ≤ n % 400 ∧ n % 400 < 400 := ⟨Int.emod_nonneg _ (by omega), Int.emod_lt_of_pos _ (by omega)⟩
  go_wp2_with fail
  refine hnu.mono ?_
  rintro e w2 ⟨rfl, rfl⟩
  clear hnu
  obtain ⟨N, hN⟩ : ∃ N : Nat, n % 400 = (N : Int) := ⟨(n % 400).toNat, by omega⟩
  rw [hN] at hq ⊢
  clear hN
  have hnu := number_any long 200 w1 (by omega) (by omega)
  have hq2 : 0 ≤ long % 200 ∧ long % 200 < 200 := ⟨Int.emod_nonneg _ (by omega), Int.emod_lt_of_pos _ (by omega)⟩
  go_wp2_with fail
  refine hnu.mono ?_
  rintro e w2 ⟨rfl, rfl⟩
  clear hnu
  obtain ⟨lg, hlg⟩ : ∃ N : Nat, long % 200 = (N : Int) := ⟨(long % 200).toNat, by omega⟩
  rw [hlg] at hq2 ⊢
  clear hlg
  have hN4 : N < 400 := by omega
  have hl2 : lg < 200 := by omega
  clear hq hq2
  have hop := opened_any 120 w1 _ _ _ _ _ _ (by omega) (by omega) (He.out.below HB1.out (Nat.le_refl _)) (HE.out.fr ((Fr.refl [] w).belows HB1.out (Nat.le_refl _)) (by simp))
  go_wp2_with fail
  refine hop.mono ?_
  intro e w2 h2
  obtain ⟨g, f, m, sb, v, rfl, hSt⟩ := h2.sto HB1.out
  have HS0 : Hid (GoesI w lg 0 g f sb w2) := Lib.hid ⟨m, v, newSt 120, 0, hSt, rfl, Nat.zero_le _⟩
  clear h2 hop hSt HB1
  go_wp2
  go_loopg [8, 9, 10] N (fun kx s8 _ _ wr => ∃ i : Nat, s8 = .int .i64 i ∧ i ≤ N ∧ N - i ≤ kx ∧ Hid (GoesI w lg i g f sb wr))
  case atStart => exact ⟨0, rfl, by omega, by omega, HS0⟩
  case round =>
    clear HS0
    obtain ⟨i, rfl, hin, hix, HR⟩ := hrel
    obtain ⟨m1, v1, t1, K1, hS1, hr1, hK1⟩ := HR.out
    have HS1 := Lib.hid hS1
    have HR1 := Lib.hid hr1
    have hKn : K1 < 1000000 := by omega
    have HK1 := Lib.hid hK1
    clear HR hS1 hr1 hK1
    by_cases hlt : i < N
    · have hltI : (i : Int) < N := by omega
      have hmk := fun W => make_fil lg (lowB i) W (by omega)
      have hB6 : Below wr.heap.size wr (wr.alloc (.cells (filC lg 0 (lowB i)) 5)) := (Below.refl _ wr).alloc (Nat.le_refl _) _
      have hF6 : Blk (wr.alloc (.cells (filC lg 0 (lowB i)) 5)) wr.heap.size 5 (filC lg 0 (lowB i)) := heap_alloc_new wr _
      go_upto_region 14 with fail
      clear hmk
      generalize wr.alloc (.cells (filC lg 0 (lowB i)) 5) = W6 at *
      have HB6 := Lib.hid hB6
      have HF6 := Lib.hid hF6
      clear hB6 hF6
      generalize wr = W5 at *
      go_loopg [10] lg (fun ky s10 wq => ∃ k : Nat, s10 = .int .i64 k ∧ k ≤ lg ∧ lg - k ≤ ky ∧ Hid (Blk wq W5.heap.size 5 (filC lg k (lowB i))) ∧ Hid (Below W5.heap.size W5 wq))
      case atStart => exact ⟨0, rfl, by omega, by omega, HF6, HB6⟩
      case round =>
        clear HF6 HB6
        obtain ⟨k, rfl, hkb, hky, HF, HB⟩ := hrel
        by_cases hk : k < lg
        · have hkI : (k : Int) < lg := by omega
          have hc : wr.cell? ⟨W5.heap.size, k, none⟩ = some (byt 0) := (HF.out.cell k).trans (fil_cell (lowB i) hk)
          have hfz := HF.out.free k
          have hlt5 := HF.out.lt
          have HF2 : Hid (Blk (wr.setCell ⟨W5.heap.size, k, none⟩ (.int .u8 ((i : Int) % 256))) W5.heap.size 5 (filC lg (k + 1) (lowB i))) := Lib.hid (by rw [← lowB_int, ← fil_set (lowB i) hk]; exact HF.out.set k _)
          have HB2 : Hid (Below W5.heap.size W5 (wr.setCell ⟨W5.heap.size, k, none⟩ (.int .u8 ((i : Int) % 256)))) := Lib.hid (HB.out.setCell (Nat.le_refl _) _)
          clear HF HB
          go_wp2
          go_roundg (lg - (k + 1))
          case measure => omega
          case rel => exact ⟨k + 1, by go_num, by omega, Nat.le_refl _, HF2, HB2⟩
        · have hkI : ¬ (k : Int) < lg := by omega
          obtain rfl : k = lg := by omega
          have hst := fil_str HF.out
          have hSd : Sto w wr.drew 120 K1 g f m1 sb v1 t1 := (HS1.out.below HB.out).below (bl_drew wr 1)
          obtain ⟨val, hval⟩ : ∃ val, val = List.replicate k (lowB i) := ⟨_, rfl⟩
          have hvl : val.length = k := by rw [hval]; simp
          have hgo : goC i k = [⟨[97], val, false⟩, ⟨[110], dig i, false⟩] := by rw [hval]; rfl
          have hsay := goes_says HS1.out.ok HR1.out (by omega) (by omega)
          rw [hgo] at hsay
          rw [← hval] at hst
          have hcv : ∀ w2, Below wr.heap.size wr.drew w2 → (convert 50 9 (.slice (some ⟨W5.heap.size, 0, none⟩) k k)).run Tryd.prog w2 = .ok (.string ⟨val.toArray⟩) w2 := fun w2 h => by
            have := conv_str k w2 (hst.keep (w' := w2) fun p hp => (h.cell hp).trans rfl)
            rw [hvl] at this
            exact this
          have hcv1 := hcv wr.drew (Below.refl _ _)
          have HCv := Lib.hid hcv
          have HSd := Lib.hid hSd
          have hnum := num_any' i wr.drew (by omega) (HT.out.below hSd.un)
          have HNum := Lib.hid hnum
          have HSay := Lib.hid hsay
          have HCm : Hid (∀ w2, Below wr.heap.size wr.drew w2 → Calls Tryd.prog 14 #[.pointer (some ⟨sb, 0, none⟩), .slice (some ⟨w2.heap.size, 0, none⟩) 2 2] (w2.alloc (.cells #[.string ⟨#[97]⟩, .string ⟨val.toArray⟩, .bool false, .string ⟨#[110]⟩, .string ⟨(dig i).toArray⟩, .bool false] 52)) (RetSt w (w2.alloc (.cells #[.string ⟨#[97]⟩, .string ⟨val.toArray⟩, .bool false, .string ⟨#[110]⟩, .string ⟨(dig i).toArray⟩, .bool false] 52)) 120 K1 g f m1 sb aR aC aF aM (comm t1 [⟨[97], val, false⟩, ⟨[110], dig i, false⟩]))) := Lib.hid fun w2 h => by
            have hS2 := HSd.out.below h
            have h3 : Below w2.heap.size w2 (w2.alloc (.cells #[.string ⟨#[97]⟩, .string ⟨val.toArray⟩, .bool false, .string ⟨#[110]⟩, .string ⟨(dig i).toArray⟩, .bool false] 52)) := (Below.refl _ w2).alloc (Nat.le_refl _) _
            have hq : Chs (w2.alloc (.cells #[.string ⟨#[97]⟩, .string ⟨val.toArray⟩, .bool false, .string ⟨#[110]⟩, .string ⟨(dig i).toArray⟩, .bool false] 52)) (w2.alloc (.cells #[.string ⟨#[97]⟩, .string ⟨val.toArray⟩, .bool false, .string ⟨#[110]⟩, .string ⟨(dig i).toArray⟩, .bool false] 52)).heap.size (some ⟨w2.heap.size, 0, none⟩) [⟨[97], val, false⟩, ⟨[110], dig i, false⟩] := chs_built w2 [⟨[97], val, false⟩, ⟨[110], dig i, false⟩]
            exact Sto.commit (hS2.below h3) He.out HE.out (by omega) (by omega) hq (fun e => by cases e) (by simp) (c := 2)
          clear hst hSd hval hvl hgo hsay hcv hnum HF HB HS1 HR1
          generalize dig i = dg at *
          go_wp2_with fail
          go_region_with (first
            | (go_at_call 23; refine HNum.out.mono ?_; rintro e w2 ⟨rfl, hB2⟩; have hcv2 := HCv.out w2 hB2; have hcm := HCm.out w2 hB2; clear hB2)
            | (go_at_call 14; refine hcm.mono ?_; intro e w4 h4; obtain ⟨m4, v4, _, h4, _, hS4⟩ := h4; obtain rfl : e = .returned .nilIface := (by rw [HSay.out.1] at h4; exact h4)))
          all_goals
            have HG4 : Hid (GoesI w k (i + 1) g f sb w4) := Lib.hid ⟨m4, v4, _, _, hS4, HSay.out.2, by have := HK1.out; rw [Nat.succ_mul]; omega⟩
            clear hcm hcv1 hcv2 hS4 h4
            go_wp2
            go_roundg (N - (i + 1))
            case measure => omega
            case rel => exact ⟨i + 1, by go_num, by omega, Nat.le_refl _, HG4⟩
    · have hltI : ¬ (i : Int) < N := by omega
      obtain rfl : i = N := by omega
      have hro := HS1.out.reopen He.out HE.out (by omega)
      go_wp2_with fail
      refine hro.mono ?_
      rintro e w3 ⟨sb3, v3, rfl, _, hB3, hS3⟩
      have hgt := hS3.get [110]
      have HS3 := Lib.hid hS3
      clear hro hB3 hS3 HS1
      go_wp2_with fail
      refine hgt.mono ?_
      rintro e w4 ⟨h4, hB4⟩
      have hS4 := HS3.out.below hB4
      have hul := used_le hS4.ok (by omega)
      have hu1 := used_any sb3 g t1.h v3 w4 hS4.jr.st (by have := hul.2; unfold roomN at this; omega)
      have hulI : (usedN t1.h : Int) ≤ 120 := by omega
      have HUl := Lib.hid hul.2
      generalize hun : usedN t1.h = un at hu1 hulI
      have HUn := Lib.hid hun
      clear hun
      have HS4 := Lib.hid hS4
      clear hgt hB4 HS3 hul hS4
      rw [HR1.out] at h4
      cases i with
      | zero =>
        obtain rfl : e = .returned (.tuple #[.string ⟨#[]⟩, .bool false]) := h4
        go_wp2_with fail
        refine hu1.mono ?_
        rintro e w5 ⟨rfl, rfl⟩
        have HB := Lib.hid HS4.out.un
        go_wp2
        go_ret
        exact ⟨rfl, HB.out⟩
      | succ i =>
        obtain rfl : e = .returned (.tuple #[.string ⟨(dig i).toArray⟩, .bool true]) := h4
        have hnum := num_any' i w4 (by omega) (HT.out.below HS4.out.un)
        generalize dig i = dg at *
        have hN0 : (0 : Int) < ((i + 1 : Nat) : Int) := by omega
        have hN1 : ¬ ((i + 1 : Nat) : Int) = 0 := by omega
        have hN2 : ((i + 1 : Nat) : Int) - 1 = (i : Int) := by omega
        generalize ((i + 1 : Nat) : Int) = M at *
        go_wp2_with fail
        refine hnum.mono ?_
        rintro e w5 ⟨rfl, hB5⟩
        have hS5 := HS4.out.below hB5
        have hu2 := used_any sb3 g t1.h v3 w5 hS5.jr.st (by have := HUl.out; unfold roomN at this; omega)
        have HB := Lib.hid hS5.un
        rw [HUn.out] at hu2
        clear hnum hB5 hS5 HS4
        go_wp2_with fail
        refine hu2.mono ?_
        rintro e w6 ⟨rfl, rfl⟩
        go_wp2
        go_ret
        exact ⟨rfl, HB.out⟩
end Go.Proofs.YtmpklljiddggpaaDoor
