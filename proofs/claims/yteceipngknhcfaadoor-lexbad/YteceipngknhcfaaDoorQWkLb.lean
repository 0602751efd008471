/-
  The walk of LexBad. Conditions: the listed errors lie as they are laid.
-/
import Derived.Test.YteceipngknhcfaaDoorQLbA
import Derived.Test.YteceipngknhcfaaDoorQWkLf
namespace Go.Proofs.YteceipngknhcfaaDoor
open Go.Shelf Go.RowKit Go.Lib
attribute [local go_sem] Oper.semAt_some

set_option maxRecDepth 100000 in
set_option maxHeartbeats 4000000 in
theorem lexBad_raw (z y : Int) (w : World) (ads : List Addr) (er : Nat → Addr) (hS : Sents w ads) (hE : Lerr w er) (hA : ∀ i, i < 21 → ads[i]? = some (er i)) :
    Calls Tryd.prog 9 #[.int .i64 z, .int .i64 y] w (RetYes w) := by
  obtain ⟨n, hn0, hn1⟩ := number_pos z 20 (by decide)
  obtain ⟨k, hk0, hk1⟩ := number_pos y 7 (by decide)
  have HN1 := Lib.hid (fun W => number_any z 20 W (by decide) (by decide))
  have HN2 := Lib.hid (fun W => number_any y 7 W (by decide) (by decide))
  rw [hn0] at HN1
  rw [hk0] at HN2
  have hnl : n < 20 := by omega
  have hk7 : k < 7 := by omega
  obtain ⟨W0, hW0⟩ : ∃ W0, W0 = w.alloc (.cells #[.bool false] 4) := ⟨_, rfl⟩
  have hb0 : Boxed W0 w.heap.size 4 (.bool false) := by rw [hW0]; exact Boxed.new w _ _
  have hB0 : Below w.heap.size w W0 := by rw [hW0]; exact (Below.refl _ _).alloc (Nat.le_refl _) _
  have HF := Lib.hid (lfirst_any er W0 (hE.below hB0))
  have HE := Lib.hid hE
  have HS := Lib.hid hS
  have HA := Lib.hid hA
  have HB0 := Lib.hid hB0
  have Hb0 := Lib.hid hb0
  have HW0 := Lib.hid hW0
  clear hn0 hn1 hk0 hk1 hE hS hA hB0 hb0
  refine (callsIn_wide (n := 3)).1 ?_
  refine callsIn_of_wp_marks Tryd.func9 rfl trivial ?_ rfl
  simp only [Tryd.ntmps9, List.size_toArray, List.length_cons, List.length_nil, Nat.reduceAdd, Nat.reduceSub, Array.replicate_succ, Array.replicate_zero, List.push_toArray, List.append_toArray, List.nil_append, List.cons_append]
  refine wpIn_wide.2 ?_
  go_wp2_with fail
  rw [← HW0.out]
  clear HW0 hW0
  refine HF.out.mono ?_
  rintro e w1 ⟨rfl, hB1⟩
  go_wp2_with fail
  refine (HN1.out _).mono ?_
  rintro e w2 ⟨rfl, rfl⟩
  have HB1 := Lib.hid (HB0.out.trans (hB1.mono HB0.out.size))
  have Hb1 := Lib.hid (show Boxed w1 w.heap.size 4 (.bool false) from (hB1.block _ Hb0.out.lt).trans Hb0.out)
  clear hB1 HF HN1 HB0 Hb0
  go_wp2
  go_loopw [6, 7] (fun x i wr => ∃ (j : Nat) (S : ByteArray), j ≤ n ∧ x = .string S ∧ S.data.toList = encs (catI (itsX j)) ∧ i = .int .i64 (j : Int) ∧ wr = w1) (fun _ i _ => n - (RowKit.intOf i).toNat)
  case atStart => exact ⟨0, ⟨#[]⟩, Nat.zero_le _, rfl, rfl, rfl, rfl⟩
  case round =>
    obtain ⟨j, S, hj, rfl, hS, rfl, hww⟩ := hrel
    obtain rfl : w1 = wr := hww.symm
    have hsz : S.size ≤ 40 := by
      have h1 := S_size hS
      have h2 : (encs (catI (itsX j))).length ≤ 2 * j := by
        rw [encs_ascii_length _ (fun r hr => by
          have : r ∈ [120, 32] := by
            clear hS h1
            induction j with
            | zero => cases hr
            | succ j ih =>
              have hr : r ∈ [120] ++ ([32] ++ catI (itsX j)) := hr
              rcases List.mem_append.1 hr with hr | hr
              · simp at hr; simp [hr]
              · rcases List.mem_append.1 hr with hr | hr
                · simp at hr; simp [hr]
                · exact ih (by omega) hr
          simp at this; omega)]
        exact Nat.le_of_eq (catX_len j)
      omega
    have HS1 := Lib.hid hS
    clear hS
    by_cases hp : j < n
    · have HG : Hid ((S ++ ⟨#[120, 32]⟩ : ByteArray).data.toList = encs (catI (itsX (j + 1)))) := Lib.hid (by
        rw [catX_succ, ByteArray.data_append, Array.toList_append, HS1.out])
      go_wp2
      go_roundw
      case rel => exact ⟨j + 1, _, by omega, rfl, HG.out, by go_num, trivial⟩
      case measure => simp [RowKit.intOf]; omega
    · obtain rfl : j = n := by omega
      obtain ⟨w2, hw2⟩ : ∃ w2, w2 = w1.alloc (.cells #[.string { data := #[65] }, .string { data := #[36] }, .string { data := #[95, 97] }, .string { data := #[195, 169] }, .string { data := #[91] }, .string { data := #[33, 61] }] 9) := ⟨_, rfl⟩
      have hRow : Blk w2 w1.heap.size 9 (bxC.map Value.string).toArray := by rw [hw2]; exact heap_alloc_new w1 _
      have hB2 : Below w1.heap.size w1 w2 := by rw [hw2]; exact (Below.refl _ _).alloc (Nat.le_refl _) _
      have HB2 := Lib.hid (HB1.out.trans (hB2.mono HB1.out.size))
      have Hb2 := Lib.hid (show Boxed w2 w.heap.size 4 (.bool false) from (hB2.block _ Hb1.out.lt).trans Hb1.out)
      have hz1 := Hb1.out.lt
      have hz2 : w2.heap.size = w1.heap.size + 1 := by rw [hw2]; simp
      have hN2 := HN2.out w2
      have HN2 := Lib.hid hN2
      have HRow := Lib.hid hRow
      clear hB2 Hb1 HB1 hRow hN2
      go_wp2_with fail
      rw [← hw2]
      clear hw2
      refine HN2.out.mono ?_
      rintro e w5 ⟨rfl, rfl⟩
      clear HN2
      have key : ∀ S2 : ByteArray, S2.data.toList = encs (catI (itsX j) ++ bdR.getD k []) → (S2 ++ ⟨#[32, 121]⟩ : ByteArray).data.toList = encs (bxR j k) := fun S2 h => by
        rw [ByteArray.data_append, Array.toList_append, h]
        unfold bxR
        simp only [encs_append, List.append_assoc]
        rfl
      have HKey := Lib.hid key
      clear key
      by_cases hk6 : k = 6
      · have hx : Hid ((S ++ ⟨#[97, 97, 97, 97, 97, 97, 97, 97, 97, 97, 97, 97, 97, 97, 97, 97, 97, 97, 97, 97, 97, 97, 97, 97, 97]⟩ : ByteArray).data.toList = encs (catI (itsX j) ++ bdR.getD k [])) := Lib.hid (by
          rw [ByteArray.data_append, Array.toList_append, HS1.out, encs_append, hk6, ← bdR_last])
        have hk6' : ((k : Int) == 6) = true := by rw [hk6]; rfl
        have HT0 : Hid ((103 : Int) = 101 + (bdE k : Int)) := Lib.hid (by rw [hk6]; decide)
        clear hk6
        go_wp2_with fail
        refine (none_any _).mono ?_
        rintro e w3 ⟨rfl, hB3⟩
        go_wp2_with fail
        refine (tokens_mk _ _).mono ?_
        rintro e w6 ⟨rfl, rfl⟩
        go_wp2_with fail
        generalize (103 : Int) = T at HT0 ⊢
        have hz : (S ++ ⟨#[97, 97, 97, 97, 97, 97, 97, 97, 97, 97, 97, 97, 97, 97, 97, 97, 97, 97, 97, 97, 97, 97, 97, 97, 97]⟩ : ByteArray).size ≤ 65 := by rw [ByteArray.size_append]; have : (⟨#[97, 97, 97, 97, 97, 97, 97, 97, 97, 97, 97, 97, 97, 97, 97, 97, 97, 97, 97, 97, 97, 97, 97, 97, 97]⟩ : ByteArray).size = 25 := rfl; omega
        generalize (S ++ ⟨#[97, 97, 97, 97, 97, 97, 97, 97, 97, 97, 97, 97, 97, 97, 97, 97, 97, 97, 97, 97, 97, 97, 97, 97, 97]⟩ : ByteArray) = S2 at hx hz ⊢
        have hm : w.heap.size < w1.heap.size + 1 := by omega
        have hw3 := hB3.size
        have hmg : w1.heap.size + 1 < w3.heap.size := by simp at hw3; omega
        have hn1 : Boxed (w2.alloc (.cells #[.int .i64 0] 3)) (w1.heap.size + 1) 3 (.int .i64 0) := by have := Boxed.new w2 3 (.int .i64 0); rwa [hz2] at this
        have hr1 : Boxed (w2.alloc (.cells #[.int .i64 0] 3)) w.heap.size 4 (.bool false) := Hb2.out.alloc _
        have hbl : Below w.heap.size w w3 := (HB2.out.alloc (by omega) _).trans (hB3.mono (by simp; omega))
        have hr3 : Boxed w3 w.heap.size 4 (.bool false) := (hB3.block _ hr1.lt).trans hr1
        have hn3 : Boxed w3 (w1.heap.size + 1) 3 (.int .i64 0) := (hB3.block _ hn1.lt).trans hn1
        have hB5 : Below w3.heap.size w3 ((w3.alloc (.cells #[.int .i64 0, .bool false, .bool false, .int .i64 0, .int .i64 0] 30)).alloc (.cells #[.string (S2 ++ { data := #[32, 121] })] 9)) := ((Below.refl _ w3).alloc (Nat.le_refl _) _).alloc (by simp) _
        have hz5 : ((w3.alloc (.cells #[.int .i64 0, .bool false, .bool false, .int .i64 0, .int .i64 0] 30)).alloc (.cells #[.string (S2 ++ { data := #[32, 121] })] 9)).heap.size = w3.heap.size + 2 := by simp
        have hC0 : LbC w (w1.heap.size + 1) w3.heap.size (st []) ((w3.alloc (.cells #[.int .i64 0, .bool false, .bool false, .int .i64 0, .int .i64 0] 30)).alloc (.cells #[.string (S2 ++ { data := #[32, 121] })] 9)) :=
          ⟨(hr3.alloc _).alloc _, (hn3.alloc _).alloc _, (show Blk5 (w3.alloc _) w3.heap.size 0 0 false from heap_alloc_new w3 _).alloc _, hbl.trans (hB5.mono (by omega))⟩
        have hS4 : ((w3.alloc (.cells #[.int .i64 0, .bool false, .bool false, .int .i64 0, .int .i64 0] 30)).alloc (.cells #[.string (S2 ++ { data := #[32, 121] })] 9)).cell? ⟨w3.heap.size + 1, 0, none⟩ = some (.string (S2 ++ { data := #[32, 121] })) := by
          have := Boxed.new (w3.alloc (.cells #[.int .i64 0, .bool false, .bool false, .int .i64 0, .int .i64 0] 30)) 9 (.string (S2 ++ { data := #[32, 121] }))
          rw [World.size_alloc] at this
          exact this.cell
        have hE3 := HE.out.cc.below hbl
        have hll : (tkI (bxR j k).length (bdR.getD k [] ++ [32, 121]).length (itsX j)).length = j := by rw [tkI_length]; simp [itsX]
        have HLx := Lib.hid (lexX j k hk7 _ (HKey.out S2 hx.out))
        obtain ⟨l, hl⟩ : ∃ l, l = tkI (bxR j k).length (bdR.getD k [] ++ [32, 121]).length (itsX j) := ⟨_, rfl⟩
        have HLg : Hid (∀ i, i < j → l[i]? = some ⟨1, 2 * i, [120], 0⟩) := Lib.hid fun i hi => by rw [hl]; exact tksX_get j k i hi
        rw [← hl] at HLx hll
        have HST := Lib.hid (tokens_el 2 (by omega) (w3.heap.size + 1) (S2 ++ { data := #[32, 121] }) (by rw [ByteArray.size_append]; have : (⟨#[32, 121]⟩ : ByteArray).size = 2 := rfl; omega) (fun c => er (cc c)) l (some (bdE k, 2 * j)) HLx.out _ (by rw [hz5]; omega) hS4 (hE3.below hB5))
        have HC0 := Lib.hid hC0
        have HZ := Lib.hid hz5
        have HE3 := Lib.hid hE3
        have HT : Hid (T = 101 + (cc (bdE k) : Int)) := Lib.hid (by rw [cc_bd]; exact HT0.out)
        have HTl : 101 ≤ T := by have := HT0.out; omega
        clear hn1 hr1 hn3 hr3 hbl hB5 hz5 hC0 hS4 hE3 hl HLx hx HT0 HKey hB3 HS1 HRow Hb2 HB2
        refine (wpIn_wide (n := 3)).1 ?_
        refine range_el rfl (by omega) (gf := 42) (lb := #[.pointer (some ⟨w3.heap.size + 1, 0, none⟩)]) rfl trivial (enters_of Tryd.func42 (by kernel_rfl) rfl) HST.out KeepTok.trans
          (fun W l o o' hl ho hc _ => KeepTok.putObj HE3.out o' (by rw [HZ.out] at hl; omega) ho hc) (Below.refl _ _) (fun x => by rw [evV_eq]; rfl)
          (fun pre W => LbC w (w1.heap.size + 1) w3.heap.size (st pre) W)
          (fun c pre _ => LbX c pre)
          (fun s A B row hs hg hr => hs.grown hm hmg hg fun r e => by have := (hr r e).1; rw [HZ.out] at this; omega)
          (fun c s A B row hs hg hr => hs)
          HC0.out
          (fun x a W => evEl (fun c => er (cc c)) x W ∧ ∃ (b : Nat) (v31 v32 v33 v34 v35 v36 v37 v38 v39 : Value), w3.heap.size + 1 ≤ b ∧ Blk W b 37 (LT.enc (tokT x)).toArray ∧ a = { tmps := #[.int .i64 (j : Int), .int .i64 y, undef, undef, .pointer (some ⟨w.heap.size, 0, none⟩), .bool true, .string S2, .int .i64 (j : Int), .slice (some ⟨w1.heap.size, 0, none⟩) 6 6, .int .i64 (k : Int), .int .i64 T, .pointer (some ⟨w1.heap.size + 1, 0, none⟩), .pointer (some ⟨w3.heap.size, 0, none⟩), .pointer (some ⟨b, 0, none⟩), errV x, .bool true, .bool true, .bool false, .int .i64 z, .int .i64 (j : Int), .int .i64 (j : Int), .int .i64 (j : Int), .bool false, u23, u24, u25, u26, .slice (some ⟨w1.heap.size, 0, none⟩) 6 6, .int .i64 y, .int .i64 (k : Int), .int .i64 (k : Int), v31, v32, v33, v34, v35, v36, v37, v38, v39, fault 0 false false 0 0, .string S2, .string (S2 ++ { data := #[32, 121] }), .func (.func 42) #[] #[.pointer (some ⟨w3.heap.size + 1, 0, none⟩)], tkV (tokT x), errV x, undef, undef, undef, undef, undef, undef, undef, undef, undef, undef, undef, undef, undef, undef, undef, undef, undef, undef, undef, undef, undef, undef, undef, undef, undef, undef, undef, undef, undef, undef], defers := [] })
          (fun x a' _ A B row hs hg hr => by
            obtain ⟨h1, b, v31, v32, v33, v34, v35, v36, v37, v38, v39, h2, h3, h4⟩ := hs
            exact ⟨evEl_own _ _ x () A B row h1 hg hr, b, v31, v32, v33, v34, v35, v36, v37, v38, v39, h2, blk_own h3 hg hr, h4⟩)
          ?assign ?body ?done ?stop
        case assign =>
          rintro lp pre x W K hC hel hK
          have hsz : w3.heap.size + 1 ≤ W.heap.size := hC.cf.lt
          have HIn : Hid (∀ o, LbC w (w1.heap.size + 1) w3.heap.size (st pre) (W.alloc o)) := Lib.hid fun o => hC.grown hm hmg (World.grownBy_alloc W o none) (fun r e => by cases e)
          have HL : Hid (∀ o, evEl (fun c => er (cc c)) x (W.alloc o)) := Lib.hid fun o => by
            cases x with
            | tok t => trivial
            | bad c p b => exact (show Blk W b _ _ from hel).alloc o
          clear hC hel
          rw [evV_eq]
          cases x with
          | tok t =>
            obtain ⟨kind, pos, text, nn⟩ := t
            dsimp only [tokT, errV, tkV]
            gi_wp2
            exact hK _ _ (KeepsFrom.of_grownBy (World.grownBy_alloc W _ none) (fun r e => by cases e)) (KeepTok.of_below ((Below.refl _ _).alloc (Nat.le_refl _) _)) (HIn.out _) ⟨HL.out _, _, _, _, _, _, _, _, _, _, _, hsz, heap_alloc_new W _, rfl⟩
          | bad c p b =>
            dsimp only [tokT, errV, tkV]
            gi_wp2
            exact hK _ _ (KeepsFrom.of_grownBy (World.grownBy_alloc W _ none) (fun r e => by cases e)) (KeepTok.of_below ((Below.refl _ _).alloc (Nat.le_refl _) _)) (HIn.out _) ⟨HL.out _, _, _, _, _, _, _, _, _, _, _, hsz, heap_alloc_new W _, rfl⟩
        case body =>
          rintro lp pre x a' W hlp hrec hC ⟨hel, b, v31, v32, v33, v34, v35, v36, v37, v38, v39, hb, hbk, rfl⟩ hlen
          have hle := st_le pre
          have HAdd := Lib.hid (st_add pre x)
          obtain ⟨s, hs⟩ : ∃ s, s = st pre := ⟨_, rfl⟩
          rw [← hs] at hC hle HAdd
          obtain ⟨i, fc, fp, fa⟩ := s
          have HI := Lib.hid hs
          have hi : i ≤ 20 := by have : i ≤ pre.length := hle; omega
          clear hs hle hlen
          cases x with
          | tok t =>
            obtain ⟨kind, pos, text, nn⟩ := t
            dsimp only [tokT, errV, tkV]
            obtain ⟨⟨c0, c1, c2, c3⟩, f0, f1, f2, f3⟩ := blk4 (show Blk W b _ #[.int .i64 (kind : Int), .int .i64 (pos : Int), .string ⟨text.toArray⟩, .int .i64 (nn : Int)] from hbk)
            have hci : W.cell? ⟨w1.heap.size + 1, 0, none⟩ = some (.int .i64 (i : Int)) := hC.ci.cell
            have hcif := hC.ci.frozen
            have hr := hC.r.cell
            have hrf := hC.r.frozen
            have HK2 := Lib.hid (KeepTok.setBox HE.out (by omega) hC.ci (by decide) (by decide) (.int .i64 ((i : Int) + 1)))
            have H1 : Hid (LbC w (w1.heap.size + 1) w3.heap.size (i + 1, fc, fp, fa) (W.setCell ⟨w1.heap.size + 1, 0, none⟩ (.int .i64 ((i : Int) + 1)))) := Lib.hid (hC.setI hm hmg)
            clear hC hbk hel
            by_cases ht : text = [120]
            · subst ht
              by_cases hp : pos = 2 * i
              · have hp' : ((pos : Int) == 2 * (i : Int)) = true := beq_iff_eq.2 (by omega)
                clear hp
                gi_wp2
                exact ⟨(KeepsOthers.setCell _ _ _).from _, HK2.out, by show LbC _ _ _ (st _) _; rw [HAdd.out]; exact H1.out⟩
              · have hp' : ((pos : Int) == 2 * (i : Int)) = false := beq_eq_false_iff_ne.2 (by omega)
                have HX : Hid (LbX .ret (pre ++ [.tok ⟨kind, pos, [120], nn⟩])) := Lib.hid ⟨rfl, pre, _, rfl, .inr (by rw [← HI.out]; exact hp)⟩
                clear hp
                gi_wp2
                exact ⟨(KeepsOthers.setCell _ _ _).from _, HX.out⟩
            · have ht' : ((⟨text.toArray⟩ : ByteArray).toList == [120]) = false := by rw [ByteArray.toList_eq]; exact beq_eq_false_iff_ne.2 ht
              have HX : Hid (LbX .ret (pre ++ [.tok ⟨kind, pos, text, nn⟩])) := Lib.hid ⟨rfl, pre, _, rfl, .inl ht⟩
              gi_wp2
              exact ⟨(KeepsOthers.setCell _ _ _).from _, HX.out⟩
          | bad c p b2 =>
            dsimp only [tokT, errV, tkV]
            have hSW := HS.out.later hC.bel
            have HF := Lib.hid (fault_placed W ads (cc c) b2 (er (cc c)) (p : Int) hSW (HA.out _ (cc_lt c)) hel)
            have HC := Lib.hid hC
            clear hC hbk hel hSW
            gi_wp2_with fail
            refine ⟨trivial, callsIn_wide.2 (HF.out.mono ?_)⟩
            rintro e w7 ⟨rfl, hB7⟩
            have hC7 := HC.out.below hm hmg hB7
            obtain ⟨⟨k0, k1, k2, k3, k4⟩, f0, f1, f2, f3, f4⟩ := blk5 hC7.cf
            have HN : Hid (LbC w (w1.heap.size + 1) w3.heap.size (i, 101 + (cc c : Int), (p : Int), true) (set5 w7 w3.heap.size (101 + (cc c : Int)) (p : Int) true)) := Lib.hid (hC7.setF hm hmg _ _ _)
            have HK2 := Lib.hid ((KeepTok.of_below hB7).trans (KeepTok.set5 HE.out (by omega) hC7.cf (101 + (cc c : Int)) (p : Int) true))
            have HKF : Hid (KeepsFrom ((w3.alloc (.cells #[.int .i64 0, .bool false, .bool false, .int .i64 0, .int .i64 0] 30)).alloc (.cells #[.string (S2 ++ { data := #[32, 121] })] 9)).heap.size W (set5 w7 w3.heap.size (101 + (cc c : Int)) (p : Int) true)) :=
              Lib.hid (KeepsFrom.trans ⟨hB7.size, fun i o _ hi _ => (hB7.block i (Array.getElem?_eq_some_iff.1 hi).1).trans hi⟩ (set5_keeps _ _ _ _))
            clear hB7 hC7
            gi_wp2
            exact ⟨HKF.out, HK2.out, by show LbC _ _ _ (st _) _; rw [HAdd.out]; exact HN.out⟩
        case done =>
          rintro D ys W hD hSy hC hK
          obtain ⟨b, rfl⟩ := hSy
          rw [HZ.out] at hD
          have hC : LbC w (w1.heap.size + 1) w3.heap.size (j, T, 2 * (j : Int), true) W := by
            rw [st_add, st_toks, hll] at hC
            rw [HT.out]
            exact hC
          have hcf : Blk5 W w3.heap.size T (2 * (j : Int)) true := hC.cf
          obtain ⟨⟨g0, g1, g2, g3, g4⟩, -⟩ := blk5 hcf
          have hci : W.cell? ⟨w1.heap.size + 1, 0, none⟩ = some (.int .i64 (j : Int)) := hC.ci.cell
          have HCd := Lib.hid (hC.below hm hmg (Below.refl _ W).drew)
          have HKd := Lib.hid hK
          have n1 : ¬ w1.heap.size + 1 = w.heap.size := by omega
          have n2 : ¬ w3.heap.size = w.heap.size := by omega
          have n3 : ¬ w.heap.size = w1.heap.size + 1 := by omega
          have n4 : ¬ w.heap.size = w3.heap.size := by omega
          clear hC hK hcf
          have hw2 : IntKind.i64.wrap (2 * (j : Int)) = 2 * (j : Int) := by rw [IntKind.wrap_i64]; omega
          gi_wp2
          go_wp2
          go_region_held3 (fun W => W.cell? ⟨w1.heap.size + 1, 0, none⟩ = some (.int .i64 (j : Int)) ∧ W.cell? ⟨w3.heap.size, 0, none⟩ = some (.int .i64 T) ∧ W.cell? ⟨w3.heap.size, 1, none⟩ = some (.bool true) ∧ W.cell? ⟨w3.heap.size, 2, none⟩ = some (.bool false) ∧ W.cell? ⟨w3.heap.size, 3, none⟩ = some (.int .i64 (2 * (j : Int))) ∧ W.cell? ⟨w3.heap.size, 4, none⟩ = some (.int .i64 0)) (go_keep)
            (first
              | (go_at_call 26; refine (placed_any _ _ _ HTl).mono ?_; rintro e w8 ⟨rfl, hB8⟩; have HC8 := Lib.hid (HCd.out.below hm hmg hB8); have B8 : Blk5 w8 w3.heap.size T (2 * (j : Int)) true := HC8.out.cf; obtain ⟨⟨k0, k1, k2, k3, k4⟩, -⟩ := blk5 B8; have k5 : w8.cell? ⟨w1.heap.size + 1, 0, none⟩ = some (.int .i64 (j : Int)) := HC8.out.ci.cell; have HK8 := Lib.hid ((hB8.block D (Array.getElem?_eq_some_iff.1 HKd.out).1).trans HKd.out); clear B8)
              | (go_at_call 29; refine (sameFault_eq T (2 * (j : Int)) true _).mono ?_; rintro e w9 ⟨rfl, hB9⟩; have HC9 := Lib.hid (HC8.out.below hm hmg hB9); have l5 : w9.cell? ⟨w1.heap.size + 1, 0, none⟩ = some (.int .i64 (j : Int)) := HC9.out.ci.cell; have B9 : Blk5 w9 w3.heap.size T (2 * (j : Int)) true := HC9.out.cf; obtain ⟨⟨l0, l1, l2, l3, l4⟩, -⟩ := blk5 B9; have l6 := HC9.out.r.cell; have l7 := HC9.out.r.frozen; have HK9 := Lib.hid ((hB9.block D (Array.getElem?_eq_some_iff.1 HK8.out).1).trans HK8.out); clear B9))
          have hfin := HC9.out.r.set (.bool true)
          have hK7 := (KeepsOthers.setCell w9 ⟨w.heap.size, 0, none⟩ (.bool true)).same D _ HK9.out rfl
          have HK7 := Lib.hid hK7
          have HB : Hid (Below w.heap.size w ((w9.setCell ⟨w.heap.size, 0, none⟩ (.bool true)).putObj D (.deferred none))) := Lib.hid ((HC9.out.bel.setCell (p := ⟨w.heap.size, 0, none⟩) (Nat.le_refl _) _).trans (belowK_b (w := w) (Nat.le_refl _) _ D _ _ (by omega) hK7 rfl rfl))
          have hres := (hfin.kept (grownBy_putObj' _ D (.deferred none)) (fun e => by cases e; omega)).cell
          have HRes := Lib.hid hres
          clear hfin hK7 hres
          go_wp2
          have hres := HRes.out
          refine ⟨by simp, .inl ⟨_, _, rfl, run_takeDeferred HK7.out, ?_⟩⟩
          exact ⟨.bool true, by simp [results, Tryd.results9, go_sem, hres], rfl, HB.out⟩
        case stop =>
          rintro D c pre W hD hpre ⟨rfl, q, t, rfl, hx⟩ hK
          exfalso
          obtain ⟨h1, h2⟩ := came_some hpre
          have h3 : q.length < j := by rw [← hll]; exact (List.getElem?_eq_some_iff.1 h2).1
          rw [HLg.out _ h3] at h2
          cases h2
          rcases hx with hx | hx
          · exact hx rfl
          · exact hx (by rw [h1])
      · have hk6' : k < 6 := by omega
        have hrc : w2.cell? ⟨w1.heap.size, k, none⟩ = some (.string (bxC.getD k ⟨#[]⟩)) := by
          rw [HRow.out.cell k]
          have : k < bxC.length := hk6'
          simp [List.getD, List.getElem?_eq_getElem this]
        obtain ⟨wd, hwd⟩ : ∃ wd, wd = bxC.getD k ⟨#[]⟩ := ⟨_, rfl⟩
        rw [← hwd] at hrc
        have hwz : wd.size ≤ 2 := by
          have : ∀ k, k < 6 → (bxC.getD k ⟨#[]⟩).size ≤ 2 := by decide
          rw [hwd]; exact this k hk6'
        have hx : Hid ((S ++ wd : ByteArray).data.toList = encs (catI (itsX j) ++ bdR.getD k [])) := Lib.hid (by
          rw [ByteArray.data_append, Array.toList_append, HS1.out, encs_append, hwd, bxC_bytes k hk6'])
        have HT0 : Hid ((105 : Int) = 101 + (bdE k : Int)) := Lib.hid (by
          have : bdE k = 4 := by unfold bdE; rw [if_neg hk6]
          rw [this]; decide)
        clear hwd
        go_wp2_with fail
        refine (none_any _).mono ?_
        rintro e w3 ⟨rfl, hB3⟩
        go_wp2_with fail
        refine (tokens_mk _ _).mono ?_
        rintro e w6 ⟨rfl, rfl⟩
        go_wp2_with fail
        generalize (105 : Int) = T at HT0 ⊢
        have hz : (S ++ wd : ByteArray).size ≤ 65 := by rw [ByteArray.size_append]; omega
        generalize (S ++ wd : ByteArray) = S2 at hx hz ⊢
        clear hrc hk6'
        have hm : w.heap.size < w1.heap.size + 1 := by omega
        have hw3 := hB3.size
        have hmg : w1.heap.size + 1 < w3.heap.size := by simp at hw3; omega
        have hn1 : Boxed (w2.alloc (.cells #[.int .i64 0] 3)) (w1.heap.size + 1) 3 (.int .i64 0) := by have := Boxed.new w2 3 (.int .i64 0); rwa [hz2] at this
        have hr1 : Boxed (w2.alloc (.cells #[.int .i64 0] 3)) w.heap.size 4 (.bool false) := Hb2.out.alloc _
        have hbl : Below w.heap.size w w3 := (HB2.out.alloc (by omega) _).trans (hB3.mono (by simp; omega))
        have hr3 : Boxed w3 w.heap.size 4 (.bool false) := (hB3.block _ hr1.lt).trans hr1
        have hn3 : Boxed w3 (w1.heap.size + 1) 3 (.int .i64 0) := (hB3.block _ hn1.lt).trans hn1
        have hB5 : Below w3.heap.size w3 ((w3.alloc (.cells #[.int .i64 0, .bool false, .bool false, .int .i64 0, .int .i64 0] 30)).alloc (.cells #[.string (S2 ++ { data := #[32, 121] })] 9)) := ((Below.refl _ w3).alloc (Nat.le_refl _) _).alloc (by simp) _
        have hz5 : ((w3.alloc (.cells #[.int .i64 0, .bool false, .bool false, .int .i64 0, .int .i64 0] 30)).alloc (.cells #[.string (S2 ++ { data := #[32, 121] })] 9)).heap.size = w3.heap.size + 2 := by simp
        have hC0 : LbC w (w1.heap.size + 1) w3.heap.size (st []) ((w3.alloc (.cells #[.int .i64 0, .bool false, .bool false, .int .i64 0, .int .i64 0] 30)).alloc (.cells #[.string (S2 ++ { data := #[32, 121] })] 9)) :=
          ⟨(hr3.alloc _).alloc _, (hn3.alloc _).alloc _, (show Blk5 (w3.alloc _) w3.heap.size 0 0 false from heap_alloc_new w3 _).alloc _, hbl.trans (hB5.mono (by omega))⟩
        have hS4 : ((w3.alloc (.cells #[.int .i64 0, .bool false, .bool false, .int .i64 0, .int .i64 0] 30)).alloc (.cells #[.string (S2 ++ { data := #[32, 121] })] 9)).cell? ⟨w3.heap.size + 1, 0, none⟩ = some (.string (S2 ++ { data := #[32, 121] })) := by
          have := Boxed.new (w3.alloc (.cells #[.int .i64 0, .bool false, .bool false, .int .i64 0, .int .i64 0] 30)) 9 (.string (S2 ++ { data := #[32, 121] }))
          rw [World.size_alloc] at this
          exact this.cell
        have hE3 := HE.out.cc.below hbl
        have hll : (tkI (bxR j k).length (bdR.getD k [] ++ [32, 121]).length (itsX j)).length = j := by rw [tkI_length]; simp [itsX]
        have HLx := Lib.hid (lexX j k hk7 _ (HKey.out S2 hx.out))
        obtain ⟨l, hl⟩ : ∃ l, l = tkI (bxR j k).length (bdR.getD k [] ++ [32, 121]).length (itsX j) := ⟨_, rfl⟩
        have HLg : Hid (∀ i, i < j → l[i]? = some ⟨1, 2 * i, [120], 0⟩) := Lib.hid fun i hi => by rw [hl]; exact tksX_get j k i hi
        rw [← hl] at HLx hll
        have HST := Lib.hid (tokens_el 2 (by omega) (w3.heap.size + 1) (S2 ++ { data := #[32, 121] }) (by rw [ByteArray.size_append]; have : (⟨#[32, 121]⟩ : ByteArray).size = 2 := rfl; omega) (fun c => er (cc c)) l (some (bdE k, 2 * j)) HLx.out _ (by rw [hz5]; omega) hS4 (hE3.below hB5))
        have HC0 := Lib.hid hC0
        have HZ := Lib.hid hz5
        have HE3 := Lib.hid hE3
        have HT : Hid (T = 101 + (cc (bdE k) : Int)) := Lib.hid (by rw [cc_bd]; exact HT0.out)
        have HTl : 101 ≤ T := by have := HT0.out; omega
        clear hn1 hr1 hn3 hr3 hbl hB5 hz5 hC0 hS4 hE3 hl HLx hx HT0 HKey hB3 HS1 HRow Hb2 HB2
        refine (wpIn_wide (n := 3)).1 ?_
        refine range_el rfl (by omega) (gf := 42) (lb := #[.pointer (some ⟨w3.heap.size + 1, 0, none⟩)]) rfl trivial (enters_of Tryd.func42 (by kernel_rfl) rfl) HST.out KeepTok.trans
          (fun W l o o' hl ho hc _ => KeepTok.putObj HE3.out o' (by rw [HZ.out] at hl; omega) ho hc) (Below.refl _ _) (fun x => by rw [evV_eq]; rfl)
          (fun pre W => LbC w (w1.heap.size + 1) w3.heap.size (st pre) W)
          (fun c pre _ => LbX c pre)
          (fun s A B row hs hg hr => hs.grown hm hmg hg fun r e => by have := (hr r e).1; rw [HZ.out] at this; omega)
          (fun c s A B row hs hg hr => hs)
          HC0.out
          (fun x a W => evEl (fun c => er (cc c)) x W ∧ ∃ (b : Nat) (v31 v32 v33 v34 v35 v36 v37 v38 v39 : Value), w3.heap.size + 1 ≤ b ∧ Blk W b 37 (LT.enc (tokT x)).toArray ∧ a = { tmps := #[.int .i64 (j : Int), .int .i64 y, undef, undef, .pointer (some ⟨w.heap.size, 0, none⟩), .bool true, .string S2, .int .i64 (j : Int), .slice (some ⟨w1.heap.size, 0, none⟩) 6 6, .int .i64 (k : Int), .int .i64 T, .pointer (some ⟨w1.heap.size + 1, 0, none⟩), .pointer (some ⟨w3.heap.size, 0, none⟩), .pointer (some ⟨b, 0, none⟩), errV x, .bool true, .bool true, .bool false, .int .i64 z, .int .i64 (j : Int), .int .i64 (j : Int), .int .i64 (j : Int), .bool false, u23, u24, u25, u26, .slice (some ⟨w1.heap.size, 0, none⟩) 6 6, .int .i64 y, .int .i64 (k : Int), .int .i64 (k : Int), v31, v32, v33, v34, v35, v36, v37, v38, v39, fault 0 false false 0 0, .string S2, .string (S2 ++ { data := #[32, 121] }), .func (.func 42) #[] #[.pointer (some ⟨w3.heap.size + 1, 0, none⟩)], tkV (tokT x), errV x, undef, undef, undef, undef, undef, undef, undef, undef, undef, undef, undef, undef, undef, undef, undef, undef, undef, undef, undef, undef, undef, undef, undef, undef, undef, undef, undef, undef, undef, undef], defers := [] })
          (fun x a' _ A B row hs hg hr => by
            obtain ⟨h1, b, v31, v32, v33, v34, v35, v36, v37, v38, v39, h2, h3, h4⟩ := hs
            exact ⟨evEl_own _ _ x () A B row h1 hg hr, b, v31, v32, v33, v34, v35, v36, v37, v38, v39, h2, blk_own h3 hg hr, h4⟩)
          ?assign ?body ?done ?stop
        case assign =>
          rintro lp pre x W K hC hel hK
          have hsz : w3.heap.size + 1 ≤ W.heap.size := hC.cf.lt
          have HIn : Hid (∀ o, LbC w (w1.heap.size + 1) w3.heap.size (st pre) (W.alloc o)) := Lib.hid fun o => hC.grown hm hmg (World.grownBy_alloc W o none) (fun r e => by cases e)
          have HL : Hid (∀ o, evEl (fun c => er (cc c)) x (W.alloc o)) := Lib.hid fun o => by
            cases x with
            | tok t => trivial
            | bad c p b => exact (show Blk W b _ _ from hel).alloc o
          clear hC hel
          rw [evV_eq]
          cases x with
          | tok t =>
            obtain ⟨kind, pos, text, nn⟩ := t
            dsimp only [tokT, errV, tkV]
            gi_wp2
            exact hK _ _ (KeepsFrom.of_grownBy (World.grownBy_alloc W _ none) (fun r e => by cases e)) (KeepTok.of_below ((Below.refl _ _).alloc (Nat.le_refl _) _)) (HIn.out _) ⟨HL.out _, _, _, _, _, _, _, _, _, _, _, hsz, heap_alloc_new W _, rfl⟩
          | bad c p b =>
            dsimp only [tokT, errV, tkV]
            gi_wp2
            exact hK _ _ (KeepsFrom.of_grownBy (World.grownBy_alloc W _ none) (fun r e => by cases e)) (KeepTok.of_below ((Below.refl _ _).alloc (Nat.le_refl _) _)) (HIn.out _) ⟨HL.out _, _, _, _, _, _, _, _, _, _, _, hsz, heap_alloc_new W _, rfl⟩
        case body =>
          rintro lp pre x a' W hlp hrec hC ⟨hel, b, v31, v32, v33, v34, v35, v36, v37, v38, v39, hb, hbk, rfl⟩ hlen
          have hle := st_le pre
          have HAdd := Lib.hid (st_add pre x)
          obtain ⟨s, hs⟩ : ∃ s, s = st pre := ⟨_, rfl⟩
          rw [← hs] at hC hle HAdd
          obtain ⟨i, fc, fp, fa⟩ := s
          have HI := Lib.hid hs
          have hi : i ≤ 20 := by have : i ≤ pre.length := hle; omega
          clear hs hle hlen
          cases x with
          | tok t =>
            obtain ⟨kind, pos, text, nn⟩ := t
            dsimp only [tokT, errV, tkV]
            obtain ⟨⟨c0, c1, c2, c3⟩, f0, f1, f2, f3⟩ := blk4 (show Blk W b _ #[.int .i64 (kind : Int), .int .i64 (pos : Int), .string ⟨text.toArray⟩, .int .i64 (nn : Int)] from hbk)
            have hci : W.cell? ⟨w1.heap.size + 1, 0, none⟩ = some (.int .i64 (i : Int)) := hC.ci.cell
            have hcif := hC.ci.frozen
            have hr := hC.r.cell
            have hrf := hC.r.frozen
            have HK2 := Lib.hid (KeepTok.setBox HE.out (by omega) hC.ci (by decide) (by decide) (.int .i64 ((i : Int) + 1)))
            have H1 : Hid (LbC w (w1.heap.size + 1) w3.heap.size (i + 1, fc, fp, fa) (W.setCell ⟨w1.heap.size + 1, 0, none⟩ (.int .i64 ((i : Int) + 1)))) := Lib.hid (hC.setI hm hmg)
            clear hC hbk hel
            by_cases ht : text = [120]
            · subst ht
              by_cases hp : pos = 2 * i
              · have hp' : ((pos : Int) == 2 * (i : Int)) = true := beq_iff_eq.2 (by omega)
                clear hp
                gi_wp2
                exact ⟨(KeepsOthers.setCell _ _ _).from _, HK2.out, by show LbC _ _ _ (st _) _; rw [HAdd.out]; exact H1.out⟩
              · have hp' : ((pos : Int) == 2 * (i : Int)) = false := beq_eq_false_iff_ne.2 (by omega)
                have HX : Hid (LbX .ret (pre ++ [.tok ⟨kind, pos, [120], nn⟩])) := Lib.hid ⟨rfl, pre, _, rfl, .inr (by rw [← HI.out]; exact hp)⟩
                clear hp
                gi_wp2
                exact ⟨(KeepsOthers.setCell _ _ _).from _, HX.out⟩
            · have ht' : ((⟨text.toArray⟩ : ByteArray).toList == [120]) = false := by rw [ByteArray.toList_eq]; exact beq_eq_false_iff_ne.2 ht
              have HX : Hid (LbX .ret (pre ++ [.tok ⟨kind, pos, text, nn⟩])) := Lib.hid ⟨rfl, pre, _, rfl, .inl ht⟩
              gi_wp2
              exact ⟨(KeepsOthers.setCell _ _ _).from _, HX.out⟩
          | bad c p b2 =>
            dsimp only [tokT, errV, tkV]
            have hSW := HS.out.later hC.bel
            have HF := Lib.hid (fault_placed W ads (cc c) b2 (er (cc c)) (p : Int) hSW (HA.out _ (cc_lt c)) hel)
            have HC := Lib.hid hC
            clear hC hbk hel hSW
            gi_wp2_with fail
            refine ⟨trivial, callsIn_wide.2 (HF.out.mono ?_)⟩
            rintro e w7 ⟨rfl, hB7⟩
            have hC7 := HC.out.below hm hmg hB7
            obtain ⟨⟨k0, k1, k2, k3, k4⟩, f0, f1, f2, f3, f4⟩ := blk5 hC7.cf
            have HN : Hid (LbC w (w1.heap.size + 1) w3.heap.size (i, 101 + (cc c : Int), (p : Int), true) (set5 w7 w3.heap.size (101 + (cc c : Int)) (p : Int) true)) := Lib.hid (hC7.setF hm hmg _ _ _)
            have HK2 := Lib.hid ((KeepTok.of_below hB7).trans (KeepTok.set5 HE.out (by omega) hC7.cf (101 + (cc c : Int)) (p : Int) true))
            have HKF : Hid (KeepsFrom ((w3.alloc (.cells #[.int .i64 0, .bool false, .bool false, .int .i64 0, .int .i64 0] 30)).alloc (.cells #[.string (S2 ++ { data := #[32, 121] })] 9)).heap.size W (set5 w7 w3.heap.size (101 + (cc c : Int)) (p : Int) true)) :=
              Lib.hid (KeepsFrom.trans ⟨hB7.size, fun i o _ hi _ => (hB7.block i (Array.getElem?_eq_some_iff.1 hi).1).trans hi⟩ (set5_keeps _ _ _ _))
            clear hB7 hC7
            gi_wp2
            exact ⟨HKF.out, HK2.out, by show LbC _ _ _ (st _) _; rw [HAdd.out]; exact HN.out⟩
        case done =>
          rintro D ys W hD hSy hC hK
          obtain ⟨b, rfl⟩ := hSy
          rw [HZ.out] at hD
          have hC : LbC w (w1.heap.size + 1) w3.heap.size (j, T, 2 * (j : Int), true) W := by
            rw [st_add, st_toks, hll] at hC
            rw [HT.out]
            exact hC
          have hcf : Blk5 W w3.heap.size T (2 * (j : Int)) true := hC.cf
          obtain ⟨⟨g0, g1, g2, g3, g4⟩, -⟩ := blk5 hcf
          have hci : W.cell? ⟨w1.heap.size + 1, 0, none⟩ = some (.int .i64 (j : Int)) := hC.ci.cell
          have HCd := Lib.hid (hC.below hm hmg (Below.refl _ W).drew)
          have HKd := Lib.hid hK
          have n1 : ¬ w1.heap.size + 1 = w.heap.size := by omega
          have n2 : ¬ w3.heap.size = w.heap.size := by omega
          have n3 : ¬ w.heap.size = w1.heap.size + 1 := by omega
          have n4 : ¬ w.heap.size = w3.heap.size := by omega
          clear hC hK hcf
          have hw2 : IntKind.i64.wrap (2 * (j : Int)) = 2 * (j : Int) := by rw [IntKind.wrap_i64]; omega
          gi_wp2
          go_wp2
          go_region_held3 (fun W => W.cell? ⟨w1.heap.size + 1, 0, none⟩ = some (.int .i64 (j : Int)) ∧ W.cell? ⟨w3.heap.size, 0, none⟩ = some (.int .i64 T) ∧ W.cell? ⟨w3.heap.size, 1, none⟩ = some (.bool true) ∧ W.cell? ⟨w3.heap.size, 2, none⟩ = some (.bool false) ∧ W.cell? ⟨w3.heap.size, 3, none⟩ = some (.int .i64 (2 * (j : Int))) ∧ W.cell? ⟨w3.heap.size, 4, none⟩ = some (.int .i64 0)) (go_keep)
            (first
              | (go_at_call 26; refine (placed_any _ _ _ HTl).mono ?_; rintro e w8 ⟨rfl, hB8⟩; have HC8 := Lib.hid (HCd.out.below hm hmg hB8); have B8 : Blk5 w8 w3.heap.size T (2 * (j : Int)) true := HC8.out.cf; obtain ⟨⟨k0, k1, k2, k3, k4⟩, -⟩ := blk5 B8; have k5 : w8.cell? ⟨w1.heap.size + 1, 0, none⟩ = some (.int .i64 (j : Int)) := HC8.out.ci.cell; have HK8 := Lib.hid ((hB8.block D (Array.getElem?_eq_some_iff.1 HKd.out).1).trans HKd.out); clear B8)
              | (go_at_call 29; refine (sameFault_eq T (2 * (j : Int)) true _).mono ?_; rintro e w9 ⟨rfl, hB9⟩; have HC9 := Lib.hid (HC8.out.below hm hmg hB9); have l5 : w9.cell? ⟨w1.heap.size + 1, 0, none⟩ = some (.int .i64 (j : Int)) := HC9.out.ci.cell; have B9 : Blk5 w9 w3.heap.size T (2 * (j : Int)) true := HC9.out.cf; obtain ⟨⟨l0, l1, l2, l3, l4⟩, -⟩ := blk5 B9; have l6 := HC9.out.r.cell; have l7 := HC9.out.r.frozen; have HK9 := Lib.hid ((hB9.block D (Array.getElem?_eq_some_iff.1 HK8.out).1).trans HK8.out); clear B9))
          have hfin := HC9.out.r.set (.bool true)
          have hK7 := (KeepsOthers.setCell w9 ⟨w.heap.size, 0, none⟩ (.bool true)).same D _ HK9.out rfl
          have HK7 := Lib.hid hK7
          have HB : Hid (Below w.heap.size w ((w9.setCell ⟨w.heap.size, 0, none⟩ (.bool true)).putObj D (.deferred none))) := Lib.hid ((HC9.out.bel.setCell (p := ⟨w.heap.size, 0, none⟩) (Nat.le_refl _) _).trans (belowK_b (w := w) (Nat.le_refl _) _ D _ _ (by omega) hK7 rfl rfl))
          have hres := (hfin.kept (grownBy_putObj' _ D (.deferred none)) (fun e => by cases e; omega)).cell
          have HRes := Lib.hid hres
          clear hfin hK7 hres
          go_wp2
          have hres := HRes.out
          refine ⟨by simp, .inl ⟨_, _, rfl, run_takeDeferred HK7.out, ?_⟩⟩
          exact ⟨.bool true, by simp [results, Tryd.results9, go_sem, hres], rfl, HB.out⟩
        case stop =>
          rintro D c pre W hD hpre ⟨rfl, q, t, rfl, hx⟩ hK
          exfalso
          obtain ⟨h1, h2⟩ := came_some hpre
          have h3 : q.length < j := by rw [← hll]; exact (List.getElem?_eq_some_iff.1 h2).1
          rw [HLg.out _ h3] at h2
          cases h2
          rcases hx with hx | hx
          · exact hx rfl
          · exact hx (by rw [h1])
theorem lexBad_walk (z y : Int) (w : World) (_ : (Lit.int .i64 z).wf = true) (_ : (Lit.int .i64 y).wf = true) (hL : laidMetH Tryd.prog laid26 w) :
    Calls Tryd.prog 9 #[.int .i64 z, .int .i64 y] w (RetYes w) := by
  obtain ⟨ads, er, hS, hE, hA, -⟩ := of26 hL
  exact lexBad_raw z y w ads er hS hE hA
end Go.Proofs.YteceipngknhcfaaDoor
