/-
  The walk of TreeLate. Conditions: none.
-/
import Derived.Test.YtpfehddkaapjiaaDoorQTrP
import Derived.Test.YtpfehddkaapjiaaDoorQTrQ
import Derived.Test.YtpfehddkaapjiaaDoorQTrS
import Derived.Test.YtpfehddkaapjiaaDoorQNumb
import Derived.Test.YtpfehddkaapjiaaDoorQIta
import Derived.Test.YtpfehddkaapjiaaDoorQTxI
import Derived.Test.YtpfehddkaapjiaaDoorQTrK
import Derived.Test.YtpfehddkaapjiaaDoorQTrFr
namespace Go.Proofs.YtpfehddkaapjiaaDoor
open Go.RowKit Go.Lib Go.Sort Go.Shelf
attribute [local go_sem] Oper.semAt_some

theorem Ow.rwA {α : Type} {L : Lie α} {w : World} {base n c : Nat} {A : Option Addr} {l : List α} (h : Ow L w base (.slice A n c) l) : Rw L w w.heap.size A l := by
  obtain ⟨A', c', e, hr, _⟩ := h.rw
  cases e
  exact hr
/-- Where the loop stands: the expression, the rows of names, whether something stood late. -/
def TlR (w : World) (b0 : Nat) (i : Nat) (e : Ex) (lt : Bool) (v6 v7 : Value) (wr : World) : Prop :=
  ∃ (deep now : List (List UInt8)) (A6 A7 : Option Addr) (c6 c7 : Nat), v6 = .slice A6 deep.length c6 ∧ v7 = .slice A7 now.length c7 ∧ LtS e deep now lt i ∧ deep.length = i + 1 ∧ now.length ≤ i + 1 ∧ MvS w wr b0 v6 v7 deep now e
theorem tl_start {w w1 : World} (hB : Below w.heap.size w w1) :
    TlR w w1.heap.size 0 (.mk 3 0 0 [97] none 0 []) false (.slice (some ⟨w1.heap.size + 1, 0, none⟩) 1 1) (.slice (some ⟨w1.heap.size + 1 + 1, 0, none⟩) 1 1)
      (((w1.alloc (.cells #[.int .i64 3, .int .i64 0, .int .i64 0, .string { data := #[97] }, .slice none 0 0] 34)).alloc (.cells #[.string { data := #[97] }] 9)).alloc (.cells #[.string { data := #[97] }] 9)) := by
  have o1 := (ow_one LN (w1.alloc (.cells #[.int .i64 3, .int .i64 0, .int .i64 0, .string { data := #[97] }, .slice none 0 0] 34)) [97]).below (w' := ((w1.alloc (.cells #[.int .i64 3, .int .i64 0, .int .i64 0, .string { data := #[97] }, .slice none 0 0] 34)).alloc (.cells #[.string { data := #[97] }] 9)).alloc (.cells #[.string { data := #[97] }] 9)) ((Below.refl _ _).alloc (Nat.le_refl _) _) (Nat.le_refl _)
  have o2 := ow_one LN ((w1.alloc (.cells #[.int .i64 3, .int .i64 0, .int .i64 0, .string { data := #[97] }, .slice none 0 0] 34)).alloc (.cells #[.string { data := #[97] }] 9)) [97]
  simp only [World.size_alloc] at o1 o2
  refine ⟨[[97]], [[97]], some ⟨w1.heap.size + 1, 0, none⟩, some ⟨w1.heap.size + 1 + 1, 0, none⟩, 1, 1, rfl, rfl, LtS.start _, rfl, by simp, ⟨o1, o2.mono (by omega), Blk.alloc (Blk.alloc (heap_alloc_new w1 _) _) _, ((hB.alloc hB.size _).alloc (by have := hB.size; simp; omega) _).alloc (by have := hB.size; simp; omega) _, hB.size, fun b h1 h2 => ?_, lies_bare _ _ _ _ _ _⟩⟩
  cases h1
  simp [Value.ownBlock] at h2
set_option maxRecDepth 100000 in
set_option maxHeartbeats 4000000 in
theorem treeLate_run (A : Option Addr) (len cap : Nat) (l : List Int) (w : World) (hl : len = l.length) (hs : Ints w w.heap.size A l) (ht : Tab w) : Calls Tryd.prog 5 #[.slice A len cap] w (RetYes w) := by
  have HF := Lib.hid (first_any w)
  have HL := Lib.hid hl
  have HS := Lib.hid hs
  have HT := Lib.hid ht
  clear hs ht
  by_cases h20 : 20 < len
  · clear hl
    go_enter Tryd.func5, Tryd.ntmps5
    go_wp2_with fail
    refine HF.out.mono ?_
    rintro e w1 ⟨rfl, hB1⟩
    go_wp2
    go_ret
    exact ⟨rfl, hB1⟩
  have h20' : len ≤ 20 := by omega
  clear hl h20
  go_enter Tryd.func5, Tryd.ntmps5
  go_wp2_with fail
  refine HF.out.mono ?_
  rintro e w1 ⟨rfl, hB⟩
  have HB1 := Lib.hid hB
  clear hB HF
  go_wp2_with fail
  have HI := Lib.hid (tl_start HB1.out)
  go_loopw [5, 6, 7, 8] (fun v5 v6 v7 v8 wr => ∃ (k : Nat) (e : Ex) (lt : Bool), k ≤ len ∧ v8 = .int .i64 (k : Int) ∧ v5 = .bool lt ∧ TlR w w1.heap.size k e lt v6 v7 wr) (fun _ _ _ v8 _ => len - (RowKit.intOf v8).toNat)
  case atStart => exact ⟨0, _, false, Nat.zero_le _, rfl, rfl, HI.out⟩
  case round =>
    obtain ⟨k, e, lt, hk, rfl, rfl, hR⟩ := hrel
    by_cases hp : k < len
    · obtain ⟨deep, now, A6, A7, c6, c7, rfl, rfl, hL, hd, hn, hM⟩ := hR
      have hkl : k < l.length := by rw [← HL.out]; exact hp
      have HM := Lib.hid hM
      have HLt := Lib.hid hL
      have Hd := Lib.hid hd
      have Hn := Lib.hid hn
      have HNm := Lib.hid (num_any' k wr (by omega) (HT.out.below hM.bel))
      have hsz := dig_length (n := k) (by omega)
      obtain ⟨T, hT⟩ : ∃ T : ByteArray, T = ⟨(dig k).toArray⟩ := ⟨_, rfl⟩
      have hTz : T.size ≤ 21 := by rw [hT]; exact hsz
      rw [← hT] at HNm
      obtain ⟨sn, hsn⟩ : ∃ sn : List UInt8, (⟨sn.toArray⟩ : ByteArray) = { data := #[98] } ++ T := ⟨(({ data := #[98] } : ByteArray) ++ T).data.toList, by apply ByteArray.ext; simp⟩
      have Hsn := Lib.hid hsn
      clear hL hM hd hn hsz hT hsn
      go_wp2_with fail
      refine HNm.out.mono ?_
      rintro e1 w2 ⟨rfl, hB2⟩
      have HM2 := Lib.hid (HM.out.below hB2)
      clear hB2 HNm HM
      have hMv := HM2.out.alloc (.cells #[.int .i64 3, .int .i64 0, .int .i64 0, .string ({ data := #[98] } ++ T), .slice none 0 0] 34)
      have hbv : Blk (w2.alloc (.cells #[.int .i64 3, .int .i64 0, .int .i64 0, .string ({ data := #[98] } ++ T), .slice none 0 0] 34)) w2.heap.size 34 #[.int .i64 3, .int .i64 0, .int .i64 0, .string ({ data := #[98] } ++ T), .slice none 0 0] := heap_alloc_new w2 _
      have hown2 := fun g hg => (HM2.out.o6.block g hg).2
      have hdl := Hd.out
      obtain ⟨v6', W6, hrun6, hO6, hB6, hs6, hK6, hob6⟩ := append_ow_one2 LNat sn hMv.o6 (by omega) (Nat.succ_le_of_lt hMv.blk.lt)
      have hM6 := hMv.grow6 hO6 hB6 hs6 hK6 hob6
      have hbv6 : Blk W6 w2.heap.size 34 #[.int .i64 3, .int .i64 0, .int .i64 0, .string ({ data := #[98] } ++ T), .slice none 0 0] := (hK6 w2.heap.size hbv.lt (fun e => Nat.lt_irrefl _ (hown2 _ e.symm))).trans hbv
      obtain ⟨A6', c6', rfl⟩ : ∃ A c, v6' = .slice A (deep.length + 1) c := by
        obtain ⟨A, c, h, _⟩ := hO6.rw
        exact ⟨A, c, by rw [h]; simp⟩
      rw [show (LN.enc sn).toArray = #[.string ({ data := #[98] } ++ T)] by rw [← Hsn.out]; rfl] at hrun6
      have HRun6 : Hid (∀ ty, (Builtin.append_ #[35, 35] ty #[.slice A6 deep.length c6, .slice (some ⟨w2.heap.size + 1, 0, none⟩) 1 1]).run Tryd.prog ((w2.alloc (.cells #[.int .i64 3, .int .i64 0, .int .i64 0, .string ({ data := #[98] } ++ T), .slice none 0 0] 34)).alloc (.cells #[.string ({ data := #[98] } ++ T)] 9)) = .ok (.slice A6' (deep.length + 1) c6') W6) := Lib.hid (by
        have := hrun6
        rw [World.size_alloc] at this
        exact this)
      have HM6 := Lib.hid hM6
      have Hbv6 := Lib.hid hbv6
      obtain ⟨ad, rfl, -, hc⟩ := (HS.out.below hM6.bel).pick hkl
      obtain ⟨z, hz⟩ : ∃ z, z = l[k] := ⟨_, rfl⟩
      rw [← hz] at hc
      have HN := Lib.hid (fun W => number_any z 5 W (by omega) (by omega))
      obtain ⟨v, hv⟩ : ∃ v : Nat, z % 5 = (v : Int) := ⟨(z % 5).toNat, by omega⟩
      have hv4 : v < 5 := by omega
      rw [hv] at HN
      clear hMv hbv hown2 hrun6 hO6 hB6 hs6 hK6 hob6 hM6 hbv6 hz hv hdl HM2
      go_wp2_with (at_builtin; refine wpList_append_eq rfl _ _ 35 rfl _ _ (.slice A6' (deep.length + 1) c6') W6 rfl rfl (HRun6.out _) ?_)
      clear HRun6
      obtain ⟨⟨k0, k1, k2, k3, k4⟩, -⟩ := blkx HM6.out.blk
      obtain ⟨⟨m0, m1, m2, m3, m4⟩, -⟩ := blkx Hbv6.out
      have hvl : ∀ W K, (Ex.mk 3 0 0 sn none 0 []).Lies W K := fun W K => lies_bare _ _ _ _ _ _
      have HVl := Lib.hid hvl
      clear hvl
      rcases (show v = 0 ∨ v = 1 ∨ v = 2 ∨ v = 3 ∨ v = 4 by omega) with rfl | rfl | rfl | rfl | rfl
      · have hA := HM6.out.alloc (.cells #[.int .i64 3, .int .i64 0, .int .i64 0, .string ({ data := #[98] } ++ T), .slice none 0 0, .int .i64 e.op, .int .i64 e.pos, .int .i64 e.n, .string ⟨e.name.toArray⟩, .slice e.A e.l.length e.c] 34)
        have hF := HM6.out.fresh 6 0 0 [] [.mk 3 0 0 sn none 0 [], e] (by simp) (by
          intro x hx
          simp only [List.mem_cons, List.mem_nil_iff, or_false] at hx
          rcases hx with rfl | rfl
          all_goals first | exact HVl.out _ _ | exact HM6.out.lies)
        rw [show (LX.cells [.mk 3 0 0 sn none 0 [], e]).toArray = #[.int .i64 3, .int .i64 0, .int .i64 0, .string ({ data := #[98] } ++ T), .slice none 0 0, .int .i64 e.op, .int .i64 e.pos, .int .i64 e.n, .string ⟨e.name.toArray⟩, .slice e.A e.l.length e.c] by first | rfl | (rw [← Hsn.out]; rfl)] at hF
        have hP := hA.put (.mk 6 0 0 [] (some ⟨W6.heap.size, 0, none⟩) 2 [.mk 3 0 0 sn none 0 [], e]) hF
        obtain ⟨⟨n0, n1, n2, n3, n4⟩, f0, f1, f2, f3, f4⟩ := blkx hA.blk
        obtain ⟨Wp, hWp⟩ : ∃ Wp, Wp = ((((((W6.alloc (.cells #[.int .i64 3, .int .i64 0, .int .i64 0, .string ({ data := #[98] } ++ T), .slice none 0 0, .int .i64 e.op, .int .i64 e.pos, .int .i64 e.n, .string ⟨e.name.toArray⟩, .slice e.A e.l.length e.c] 34)).setCell ⟨w1.heap.size, 0, none⟩ (.int .i64 6)).setCell ⟨w1.heap.size, 1, none⟩ (.int .i64 0)).setCell ⟨w1.heap.size, 2, none⟩ (.int .i64 0)).setCell ⟨w1.heap.size, 3, none⟩ (.string { data := #[] })).setCell ⟨w1.heap.size, 4, none⟩ (.slice (some ⟨W6.heap.size, 0, none⟩) 2 2)) := ⟨_, rfl⟩
        have hzp : Wp.heap.size = W6.heap.size + 1 := by rw [hWp]; simp
        have HMp : Hid (MvS w Wp w1.heap.size (.slice A6' (deep.length + 1) c6') (.slice A7 now.length c7) (deep ++ [sn]) now (.mk 6 0 0 [] (some ⟨W6.heap.size, 0, none⟩) 2 [.mk 3 0 0 sn none 0 [], e])) := Lib.hid (by rw [hWp]; exact hP)
        have HLn := Lib.hid (HLt.out.add (s := sn) (op := 6) (A := some ⟨W6.heap.size, 0, none⟩) (c := 2) rfl (by decide) (by decide))
        clear hA hF hP
        have hnl := Hn.out
        obtain ⟨v7', W7, hrun7, hO7, hB7, hs7, hK7, hob7⟩ := append_ow_one2 LNat sn HMp.out.o7 (by omega) (Nat.succ_le_of_lt HMp.out.blk.lt)
        have HM7 := Lib.hid (HMp.out.grow7 hO7 hB7 hs7 hK7 hob7)
        obtain ⟨A7', c7', rfl⟩ : ∃ A c, v7' = .slice A (now.length + 1) c := by
          obtain ⟨A, c, h, _⟩ := hO7.rw
          exact ⟨A, c, by rw [h]; simp⟩
        rw [show (LN.enc sn).toArray = #[.string ({ data := #[98] } ++ T)] by rw [← Hsn.out]; rfl, hzp, hWp] at hrun7
        have HRun7 : Hid (∀ ty, (Builtin.append_ #[35, 35] ty #[.slice A7 now.length c7, .slice (some ⟨W6.heap.size + 1, 0, none⟩) 1 1]).run Tryd.prog _ = .ok (.slice A7' (now.length + 1) c7') W7) := Lib.hid hrun7
        clear hrun7 hO7 hB7 hs7 hK7 hob7 hnl hWp HMp hzp
        go_wp2_with fail
        refine (HN.out _).mono ?_
        rintro e' w' ⟨rfl, rfl⟩
        go_wp2_with (at_builtin; refine wpList_append_eq rfl _ _ 35 rfl _ _ (.slice A7' (now.length + 1) c7') W7 rfl rfl (HRun7.out _) ?_)
        go_roundw
        case rel => exact ⟨k + 1, _, lt, by omega, by go_num, rfl, deep ++ [sn], now ++ [sn], A6', A7', c6', c7', by simp, by simp, HLn.out, by have := Hd.out; simp; omega, by have := Hn.out; simp; omega, HM7.out⟩
        case measure => simp [RowKit.intOf]; omega
      · have hA := HM6.out.alloc (.cells #[.int .i64 3, .int .i64 0, .int .i64 0, .string ({ data := #[98] } ++ T), .slice none 0 0, .int .i64 e.op, .int .i64 e.pos, .int .i64 e.n, .string ⟨e.name.toArray⟩, .slice e.A e.l.length e.c] 34)
        have hF := HM6.out.fresh 21 0 0 [] [.mk 3 0 0 sn none 0 [], e] (by simp) (by
          intro x hx
          simp only [List.mem_cons, List.mem_nil_iff, or_false] at hx
          rcases hx with rfl | rfl
          all_goals first | exact HVl.out _ _ | exact HM6.out.lies)
        rw [show (LX.cells [.mk 3 0 0 sn none 0 [], e]).toArray = #[.int .i64 3, .int .i64 0, .int .i64 0, .string ({ data := #[98] } ++ T), .slice none 0 0, .int .i64 e.op, .int .i64 e.pos, .int .i64 e.n, .string ⟨e.name.toArray⟩, .slice e.A e.l.length e.c] by first | rfl | (rw [← Hsn.out]; rfl)] at hF
        have hP := hA.put (.mk 21 0 0 [] (some ⟨W6.heap.size, 0, none⟩) 2 [.mk 3 0 0 sn none 0 [], e]) hF
        obtain ⟨⟨n0, n1, n2, n3, n4⟩, f0, f1, f2, f3, f4⟩ := blkx hA.blk
        obtain ⟨Wp, hWp⟩ : ∃ Wp, Wp = ((((((W6.alloc (.cells #[.int .i64 3, .int .i64 0, .int .i64 0, .string ({ data := #[98] } ++ T), .slice none 0 0, .int .i64 e.op, .int .i64 e.pos, .int .i64 e.n, .string ⟨e.name.toArray⟩, .slice e.A e.l.length e.c] 34)).setCell ⟨w1.heap.size, 0, none⟩ (.int .i64 21)).setCell ⟨w1.heap.size, 1, none⟩ (.int .i64 0)).setCell ⟨w1.heap.size, 2, none⟩ (.int .i64 0)).setCell ⟨w1.heap.size, 3, none⟩ (.string { data := #[] })).setCell ⟨w1.heap.size, 4, none⟩ (.slice (some ⟨W6.heap.size, 0, none⟩) 2 2)) := ⟨_, rfl⟩
        have hzp : Wp.heap.size = W6.heap.size + 1 := by rw [hWp]; simp
        have HMp : Hid (MvS w Wp w1.heap.size (.slice A6' (deep.length + 1) c6') (.slice A7 now.length c7) (deep ++ [sn]) now (.mk 21 0 0 [] (some ⟨W6.heap.size, 0, none⟩) 2 [.mk 3 0 0 sn none 0 [], e])) := Lib.hid (by rw [hWp]; exact hP)
        have HLn := Lib.hid (HLt.out.fby1 (s := sn) (A := some ⟨W6.heap.size, 0, none⟩) (c := 2))
        clear hA hF hP
        have HMN7 := Lib.hid (HMp.out.new7 sn)
        rw [hzp, Hsn.out, hWp] at HMN7
        clear hWp hzp
        go_wp2_with fail
        refine (HN.out _).mono ?_
        rintro e' w' ⟨rfl, rfl⟩
        go_wp2
        go_roundw
        case rel => exact ⟨k + 1, _, true, by omega, by go_num, rfl, deep ++ [sn], [sn], A6', some ⟨W6.heap.size + 1, 0, none⟩, c6', 1, by simp, by simp, HLn.out, by have := Hd.out; simp; omega, by simp, HMN7.out⟩
        case measure => simp [RowKit.intOf]; omega
      · have hA := HM6.out.alloc (.cells #[.int .i64 e.op, .int .i64 e.pos, .int .i64 e.n, .string ⟨e.name.toArray⟩, .slice e.A e.l.length e.c, .int .i64 3, .int .i64 0, .int .i64 0, .string ({ data := #[98] } ++ T), .slice none 0 0] 34)
        have hF := HM6.out.fresh 21 0 0 [] [e, .mk 3 0 0 sn none 0 []] (by simp) (by
          intro x hx
          simp only [List.mem_cons, List.mem_nil_iff, or_false] at hx
          rcases hx with rfl | rfl
          all_goals first | exact HVl.out _ _ | exact HM6.out.lies)
        rw [show (LX.cells [e, .mk 3 0 0 sn none 0 []]).toArray = #[.int .i64 e.op, .int .i64 e.pos, .int .i64 e.n, .string ⟨e.name.toArray⟩, .slice e.A e.l.length e.c, .int .i64 3, .int .i64 0, .int .i64 0, .string ({ data := #[98] } ++ T), .slice none 0 0] by first | rfl | (rw [← Hsn.out]; rfl)] at hF
        have hP := hA.put (.mk 21 0 0 [] (some ⟨W6.heap.size, 0, none⟩) 2 [e, .mk 3 0 0 sn none 0 []]) hF
        obtain ⟨⟨n0, n1, n2, n3, n4⟩, f0, f1, f2, f3, f4⟩ := blkx hA.blk
        obtain ⟨Wp, hWp⟩ : ∃ Wp, Wp = ((((((W6.alloc (.cells #[.int .i64 e.op, .int .i64 e.pos, .int .i64 e.n, .string ⟨e.name.toArray⟩, .slice e.A e.l.length e.c, .int .i64 3, .int .i64 0, .int .i64 0, .string ({ data := #[98] } ++ T), .slice none 0 0] 34)).setCell ⟨w1.heap.size, 0, none⟩ (.int .i64 21)).setCell ⟨w1.heap.size, 1, none⟩ (.int .i64 0)).setCell ⟨w1.heap.size, 2, none⟩ (.int .i64 0)).setCell ⟨w1.heap.size, 3, none⟩ (.string { data := #[] })).setCell ⟨w1.heap.size, 4, none⟩ (.slice (some ⟨W6.heap.size, 0, none⟩) 2 2)) := ⟨_, rfl⟩
        have hzp : Wp.heap.size = W6.heap.size + 1 := by rw [hWp]; simp
        have HMp : Hid (MvS w Wp w1.heap.size (.slice A6' (deep.length + 1) c6') (.slice A7 now.length c7) (deep ++ [sn]) now (.mk 21 0 0 [] (some ⟨W6.heap.size, 0, none⟩) 2 [e, .mk 3 0 0 sn none 0 []])) := Lib.hid (by rw [hWp]; exact hP)
        have HLn := Lib.hid (HLt.out.fby2 (s := sn) (A := some ⟨W6.heap.size, 0, none⟩) (c := 2))
        clear hA hF hP
        go_wp2_with fail
        refine (HN.out _).mono ?_
        rintro e' w' ⟨rfl, rfl⟩
        go_wp2
        go_roundw
        case rel => exact ⟨k + 1, _, lt, by omega, by go_num, rfl, deep ++ [sn], now, A6', A7, c6', c7, by simp, by simp, HLn.out, by have := Hd.out; simp; omega, by have := Hn.out; omega, (by rw [← hWp]; exact HMp.out)⟩
        case measure => simp [RowKit.intOf]; omega
      · have hA1 := HM6.out.alloc (.cells #[.int .i64 e.op, .int .i64 e.pos, .int .i64 e.n, .string ⟨e.name.toArray⟩, .slice e.A e.l.length e.c] 34)
        have hF1 := HM6.out.fresh 24 0 0 sn [e] (by simp) (by
          intro x hx
          simp only [List.mem_cons, List.mem_nil_iff, or_false] at hx
          subst hx
          exact HM6.out.lies)
        rw [show (LX.cells [e]).toArray = #[.int .i64 e.op, .int .i64 e.pos, .int .i64 e.n, .string ⟨e.name.toArray⟩, .slice e.A e.l.length e.c] from rfl] at hF1
        have hF := hA1.fresh 23 0 0 [] [.mk 24 0 0 sn (some ⟨W6.heap.size, 0, none⟩) 1 [e]] (by simp) (by
          intro x hx
          simp only [List.mem_cons, List.mem_nil_iff, or_false] at hx
          subst hx
          exact hF1)
        rw [show (LX.cells [.mk 24 0 0 sn (some ⟨W6.heap.size, 0, none⟩) 1 [e]]).toArray = #[.int .i64 24, .int .i64 0, .int .i64 0, .string ({ data := #[98] } ++ T), .slice (some ⟨W6.heap.size, 0, none⟩) 1 1] by rw [← Hsn.out]; rfl, show (W6.alloc (.cells #[.int .i64 e.op, .int .i64 e.pos, .int .i64 e.n, .string ⟨e.name.toArray⟩, .slice e.A e.l.length e.c] 34)).heap.size = W6.heap.size + 1 from World.size_alloc _ _] at hF
        have hA := hA1.alloc (.cells #[.int .i64 24, .int .i64 0, .int .i64 0, .string ({ data := #[98] } ++ T), .slice (some ⟨W6.heap.size, 0, none⟩) 1 1] 34)
        have HMX3 := Lib.hid (hA.put (.mk 23 0 0 [] (some ⟨W6.heap.size + 1, 0, none⟩) 1 [.mk 24 0 0 sn (some ⟨W6.heap.size, 0, none⟩) 1 [e]]) hF).nil7
        obtain ⟨⟨n0, n1, n2, n3, n4⟩, f0, f1, f2, f3, f4⟩ := blkx hA.blk
        have HLn := Lib.hid (HLt.out.pre (s := sn) (A := some ⟨W6.heap.size + 1, 0, none⟩) (c := 1) (A2 := some ⟨W6.heap.size, 0, none⟩) (c2 := 1))
        clear hA hF hA1 hF1
        go_wp2_with fail
        refine (HN.out _).mono ?_
        rintro e' w' ⟨rfl, rfl⟩
        go_wp2
        go_roundw
        case rel => exact ⟨k + 1, _, true, by omega, by go_num, rfl, deep ++ [sn], [], A6', none, c6', 0, by simp, by simp, HLn.out, by have := Hd.out; simp; omega, by simp, HMX3.out⟩
        case measure => simp [RowKit.intOf]; omega
      · have hA := HM6.out.alloc (.cells #[.int .i64 e.op, .int .i64 e.pos, .int .i64 e.n, .string ⟨e.name.toArray⟩, .slice e.A e.l.length e.c, .int .i64 e.op, .int .i64 e.pos, .int .i64 e.n, .string ⟨e.name.toArray⟩, .slice e.A e.l.length e.c] 34)
        have hF := HM6.out.fresh 25 0 0 sn [e, e] (by simp) (by
          intro x hx
          simp only [List.mem_cons, List.mem_nil_iff, or_false] at hx
          rcases hx with rfl | rfl
          all_goals first | exact HVl.out _ _ | exact HM6.out.lies)
        rw [show (LX.cells [e, e]).toArray = #[.int .i64 e.op, .int .i64 e.pos, .int .i64 e.n, .string ⟨e.name.toArray⟩, .slice e.A e.l.length e.c, .int .i64 e.op, .int .i64 e.pos, .int .i64 e.n, .string ⟨e.name.toArray⟩, .slice e.A e.l.length e.c] by first | rfl | (rw [← Hsn.out]; rfl)] at hF
        have hP := hA.put (.mk 25 0 0 sn (some ⟨W6.heap.size, 0, none⟩) 2 [e, e]) hF
        obtain ⟨⟨n0, n1, n2, n3, n4⟩, f0, f1, f2, f3, f4⟩ := blkx hA.blk
        obtain ⟨Wp, hWp⟩ : ∃ Wp, Wp = ((((((W6.alloc (.cells #[.int .i64 e.op, .int .i64 e.pos, .int .i64 e.n, .string ⟨e.name.toArray⟩, .slice e.A e.l.length e.c, .int .i64 e.op, .int .i64 e.pos, .int .i64 e.n, .string ⟨e.name.toArray⟩, .slice e.A e.l.length e.c] 34)).setCell ⟨w1.heap.size, 0, none⟩ (.int .i64 25)).setCell ⟨w1.heap.size, 1, none⟩ (.int .i64 0)).setCell ⟨w1.heap.size, 2, none⟩ (.int .i64 0)).setCell ⟨w1.heap.size, 3, none⟩ (.string ({ data := #[98] } ++ T))).setCell ⟨w1.heap.size, 4, none⟩ (.slice (some ⟨W6.heap.size, 0, none⟩) 2 2)) := ⟨_, rfl⟩
        have hzp : Wp.heap.size = W6.heap.size + 1 := by rw [hWp]; simp
        have HMp : Hid (MvS w Wp w1.heap.size (.slice A6' (deep.length + 1) c6') (.slice A7 now.length c7) (deep ++ [sn]) now (.mk 25 0 0 sn (some ⟨W6.heap.size, 0, none⟩) 2 [e, e])) := Lib.hid (by rw [hWp]; rw [← Hsn.out]; exact hP)
        have HLn := Lib.hid (fun h6 => HLt.out.merge (s := sn) (A := some ⟨W6.heap.size, 0, none⟩) (c := 2) h6)
        clear hA hF hP
        have hnl := Hn.out
        obtain ⟨v7', W7, hrun7, hO7, hB7, hs7, hK7, hob7⟩ := append_ow_one2 LNat sn HMp.out.o7 (by omega) (Nat.succ_le_of_lt HMp.out.blk.lt)
        have HM7 := Lib.hid (HMp.out.grow7 hO7 hB7 hs7 hK7 hob7)
        obtain ⟨A7', c7', rfl⟩ : ∃ A c, v7' = .slice A (now.length + 1) c := by
          obtain ⟨A, c, h, _⟩ := hO7.rw
          exact ⟨A, c, by rw [h]; simp⟩
        rw [show (LN.enc sn).toArray = #[.string ({ data := #[98] } ++ T)] by rw [← Hsn.out]; rfl, hzp, hWp] at hrun7
        have HRun7 : Hid (∀ ty, (Builtin.append_ #[35, 35] ty #[.slice A7 now.length c7, .slice (some ⟨W6.heap.size + 1, 0, none⟩) 1 1]).run Tryd.prog _ = .ok (.slice A7' (now.length + 1) c7') W7) := Lib.hid hrun7
        clear hrun7 hO7 hB7 hs7 hK7 hob7 hnl hWp HMp hzp
        by_cases h6 : k ≤ 6
        · have HLm := Lib.hid (HLn.out h6)
          have h6' : ¬ (6 : Int) < (k : Int) := by omega
          go_wp2_with fail
          refine (HN.out _).mono ?_
          rintro e' w' ⟨rfl, rfl⟩
          go_wp2_with (at_builtin; refine wpList_append_eq rfl _ _ 35 rfl _ _ (.slice A7' (now.length + 1) c7') W7 rfl rfl (HRun7.out _) ?_)
          go_roundw
          case rel => exact ⟨k + 1, _, lt, by omega, by go_num, rfl, deep ++ [sn], now ++ [sn], A6', A7', c6', c7', by simp, by simp, HLm.out, by have := Hd.out; simp; omega, by have := Hn.out; simp; omega, HM7.out⟩
          case measure => simp [RowKit.intOf]; omega
        · have h6' : (6 : Int) < (k : Int) := by omega
          clear h6
          go_wp2_with fail
          refine (HN.out _).mono ?_
          rintro e' w' ⟨rfl, rfl⟩
          go_wp2_with (at_builtin; refine wpList_append_eq rfl _ _ 35 rfl _ _ (.slice A7' (now.length + 1) c7') W7 rfl rfl (HRun7.out _) ?_)
          go_ret
          exact ⟨rfl, HM7.out.bel⟩
    · obtain ⟨deep, now, A6, A7, c6, c7, rfl, rfl, hL, hd, hn, hM⟩ := hR
      have hO6 := hM.o6
      have hO7 := hM.o7
      have hE : Ev0 wr w1.heap.size e := ⟨Ex.Lies.keep (fun _ hb => ⟨hb.2.2.1, hb.2.2.2⟩) (fun _ _ => rfl) e hM.lies, hM.blk⟩
      have hB := hM.bel
      clear hM
      have HLt := Lib.hid hL
      have HO6 := Lib.hid hO6
      have HO7 := Lib.hid hO7
      have HE := Lib.hid hE
      have HBr := Lib.hid hB
      obtain ⟨⟨k0, k1, k2, k3, k4⟩, -⟩ := blkx hE.blk
      have hany : lt = true ∨ 0 < now.length := hL.any.imp id fun h => List.length_pos_iff.2 h
      have hcn : e.cnt ≤ 100000 := by
        have h1 := hL.cnt
        have : 2 ^ (min k 7 + 2) ≤ 2 ^ 9 := Nat.pow_le_pow_right (by omega) (by omega)
        omega
      have HDp := Lib.hid (⟨hL.slim, hcn, hL.dep⟩ : _ ∧ _ ∧ _)
      have HLi : Hid (e.Lies wr (· < wr.heap.size)) := Lib.hid (Ex.Lies.keep (fun _ hb => hb.2) (fun _ _ => rfl) e hE.lies)
      have HUt : Hid (usesS (e.uses true) = risT deep) := Lib.hid (usesS_eq _ _ hL.md)
      have HUn : Hid (usesS (e.uses false) = risT now) := Lib.hid (usesS_eq _ _ hL.mn)
      have hn2 : now.length ≤ 100000 := by omega
      have hd2 : deep.length ≤ 100000 := by omega
      clear hL hO6 hO7 hE hB HI HB1 hcn hd hn
      have HU1 := Lib.hid (uses_any true (2 * k + 1) e wr HDp.out.2.2 HDp.out.1 HLi.out HDp.out.2.1)
      unfold Ex.val at HU1
      cases lt
      · have hn0 : 0 < now.length := by
          rcases hany with h | h
          · cases h
          · exact h
        have hn1 : (0 : Int) < now.length := by omega
        have hn3 : decide (now.length = 0) = false := decide_eq_false (by omega)
        clear hany
        go_wp2_with fail
        refine HU1.out.mono ?_
        rintro e1 w2 ⟨B1, d1, rfl, hRw1, -, -, hB2⟩
        rw [HUt.out] at hRw1 ⊢
        have HR1 := Lib.hid (rising_any A6 c6 deep w2.heap.size w2 ((HO6.out.rwA.below hB2).more hB2.size) (Nat.le_refl _) hd2)
        have HRw1 := Lib.hid hRw1
        have HE2 := Lib.hid (HE.out.below hB2)
        have HO72 := Lib.hid ((HO7.out.rwA.below hB2).more hB2.size)
        have HLi2 := Lib.hid ((HLi.out.below hB2).more hB2.size)
        have HB2 := Lib.hid (HBr.out.trans (hB2.mono HBr.out.size))
        clear hRw1 hB2 HBr HU1 HE HO6 HO7 HLi k0 k1 k2 k3 k4
        go_wp2_with fail
        refine HR1.out.mono ?_
        rintro e2 w3 ⟨B2, d2, rfl, hO, hB3⟩
        have hlr := risT_len _ deep rfl
        have HS1 := Lib.hid (sameTexts_yes B1 B2 d1 d2 w3.heap.size (risT deep) w3 ((HRw1.out.below hB3).more hB3.size) hO.rwA (Nat.le_refl _) (by omega))
        have HE3 := Lib.hid (HE2.out.below hB3)
        have HO73 := Lib.hid ((HO72.out.below hB3).more hB3.size)
        have HLi3 := Lib.hid ((HLi2.out.below hB3).more hB3.size)
        have HB3 := Lib.hid (HB2.out.trans (hB3.mono HB2.out.size))
        clear hO hB3 HB2 HR1 HRw1 HE2 HO72 HLi2
        go_wp2_with fail
        refine HS1.out.mono ?_
        rintro e3 w4 ⟨rfl, hB4⟩
        have HE4 := Lib.hid (HE3.out.below hB4)
        have HO74 := Lib.hid ((HO73.out.below hB4).more hB4.size)
        have HLi4 := Lib.hid ((HLi3.out.below hB4).more hB4.size)
        have HB4 := Lib.hid (HB3.out.trans (hB4.mono HB3.out.size))
        have HU2 := Lib.hid (uses_any false (2 * k + 1) e w4 HDp.out.2.2 HDp.out.1 HLi4.out HDp.out.2.1)
        unfold Ex.val at HU2
        obtain ⟨⟨k0, k1, k2, k3, k4⟩, -⟩ := blkx HE4.out.blk
        clear hB4 HB3 HS1 HE3 HO73 HLi3
        go_wp2_with fail
        refine HU2.out.mono ?_
        rintro e5 w5 ⟨B5, d5, rfl, hRw5, -, -, hB5⟩
        rw [HUn.out] at hRw5 ⊢
        have HR2 := Lib.hid (rising_any A7 c7 now w5.heap.size w5 ((HO74.out.below hB5).more hB5.size) (Nat.le_refl _) hn2)
        have HRw5 := Lib.hid hRw5
        have HB5 := Lib.hid (HB4.out.trans (hB5.mono HB4.out.size))
        clear hRw5 hB5 HB4 HU2 HE4 HO74 HLi4 k0 k1 k2 k3 k4
        go_wp2_with fail
        refine HR2.out.mono ?_
        rintro e6 w6 ⟨B6, d6, rfl, hO, hB6⟩
        have hlr2 := risT_len _ now rfl
        have HS2 := Lib.hid (sameTexts_yes B5 B6 d5 d6 w6.heap.size (risT now) w6 ((HRw5.out.below hB6).more hB6.size) hO.rwA (Nat.le_refl _) (by omega))
        have HB6 := Lib.hid (HB5.out.trans (hB6.mono HB5.out.size))
        clear hO hB6 HB5 HR2 HRw5
        go_wp2_with fail
        refine HS2.out.mono ?_
        rintro e7 w7 ⟨rfl, hB7⟩
        have HB7 := Lib.hid (HB6.out.trans (hB7.mono HB6.out.size))
        clear hB7 HB6
        go_wp2
        go_ret
        exact ⟨rfl, HB7.out⟩
      · clear hany
        go_wp2_with fail
        refine HU1.out.mono ?_
        rintro e1 w2 ⟨B1, d1, rfl, hRw1, -, -, hB2⟩
        rw [HUt.out] at hRw1 ⊢
        have HR1 := Lib.hid (rising_any A6 c6 deep w2.heap.size w2 ((HO6.out.rwA.below hB2).more hB2.size) (Nat.le_refl _) hd2)
        have HRw1 := Lib.hid hRw1
        have HE2 := Lib.hid (HE.out.below hB2)
        have HO72 := Lib.hid ((HO7.out.rwA.below hB2).more hB2.size)
        have HLi2 := Lib.hid ((HLi.out.below hB2).more hB2.size)
        have HB2 := Lib.hid (HBr.out.trans (hB2.mono HBr.out.size))
        clear hRw1 hB2 HBr HU1 HE HO6 HO7 HLi k0 k1 k2 k3 k4
        go_wp2_with fail
        refine HR1.out.mono ?_
        rintro e2 w3 ⟨B2, d2, rfl, hO, hB3⟩
        have hlr := risT_len _ deep rfl
        have HS1 := Lib.hid (sameTexts_yes B1 B2 d1 d2 w3.heap.size (risT deep) w3 ((HRw1.out.below hB3).more hB3.size) hO.rwA (Nat.le_refl _) (by omega))
        have HE3 := Lib.hid (HE2.out.below hB3)
        have HO73 := Lib.hid ((HO72.out.below hB3).more hB3.size)
        have HLi3 := Lib.hid ((HLi2.out.below hB3).more hB3.size)
        have HB3 := Lib.hid (HB2.out.trans (hB3.mono HB2.out.size))
        clear hO hB3 HB2 HR1 HRw1 HE2 HO72 HLi2
        go_wp2_with fail
        refine HS1.out.mono ?_
        rintro e3 w4 ⟨rfl, hB4⟩
        have HE4 := Lib.hid (HE3.out.below hB4)
        have HO74 := Lib.hid ((HO73.out.below hB4).more hB4.size)
        have HLi4 := Lib.hid ((HLi3.out.below hB4).more hB4.size)
        have HB4 := Lib.hid (HB3.out.trans (hB4.mono HB3.out.size))
        have HU2 := Lib.hid (uses_any false (2 * k + 1) e w4 HDp.out.2.2 HDp.out.1 HLi4.out HDp.out.2.1)
        unfold Ex.val at HU2
        obtain ⟨⟨k0, k1, k2, k3, k4⟩, -⟩ := blkx HE4.out.blk
        clear hB4 HB3 HS1 HE3 HO73 HLi3
        go_wp2_with fail
        refine HU2.out.mono ?_
        rintro e5 w5 ⟨B5, d5, rfl, hRw5, -, -, hB5⟩
        rw [HUn.out] at hRw5 ⊢
        have HR2 := Lib.hid (rising_any A7 c7 now w5.heap.size w5 ((HO74.out.below hB5).more hB5.size) (Nat.le_refl _) hn2)
        have HRw5 := Lib.hid hRw5
        have HB5 := Lib.hid (HB4.out.trans (hB5.mono HB4.out.size))
        clear hRw5 hB5 HB4 HU2 HE4 HO74 HLi4 k0 k1 k2 k3 k4
        go_wp2_with fail
        refine HR2.out.mono ?_
        rintro e6 w6 ⟨B6, d6, rfl, hO, hB6⟩
        have hlr2 := risT_len _ now rfl
        have HS2 := Lib.hid (sameTexts_yes B5 B6 d5 d6 w6.heap.size (risT now) w6 ((HRw5.out.below hB6).more hB6.size) hO.rwA (Nat.le_refl _) (by omega))
        have HB6 := Lib.hid (HB5.out.trans (hB6.mono HB5.out.size))
        clear hO hB6 HB5 HR2 HRw5
        go_wp2_with fail
        refine HS2.out.mono ?_
        rintro e7 w7 ⟨rfl, hB7⟩
        have HB7 := Lib.hid (HB6.out.trans (hB7.mono HB6.out.size))
        clear hB7 HB6
        go_wp2
        go_ret
        exact ⟨rfl, HB7.out⟩
theorem treeLate_walk (A : Option Addr) (len cap : Nat) (l : List Int) (w : World) (hl : len = l.length) (hs : Ints w w.heap.size A l) (hL : laidMetH Tryd.prog laid3 w) : Calls Tryd.prog 5 #[.slice A len cap] w (RetYes w) := treeLate_run A len cap l w hl hs (tab_of3 hL)
end Go.Proofs.YtpfehddkaapjiaaDoor
