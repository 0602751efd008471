/-
  The walk of LexLeft. Conditions: the listed errors lie as they are laid.
-/
import Derived.Test.YteceipngknhcfaaDoorQWkLj
import Derived.Test.YteceipngknhcfaaDoorQWkLn
namespace Go.Proofs.YteceipngknhcfaaDoor
open Go.Shelf Go.RowKit Go.Lib
attribute [local go_sem] Oper.semAt_some

theorem dig_dgR : ∀ (m n : Nat), n ≤ m → dig n = encs (dgR n)
  | m, n, h => by
    unfold dig
    rw [Lib.decDigits]
    by_cases h0 : n < 10
    · rw [dif_pos h0, dgR_small h0, encs_cons, encB_lt (by omega), encs_nil]
      rfl
    · cases m with
      | zero => omega
      | succ m =>
        have := dig_dgR m (n / 10) (by omega)
        unfold dig at this
        rw [dif_neg h0, this, dgR_more h0, encs_append, encs_cons, encB_lt (by omega), encs_nil]
        rfl
def itF (i : Nat) : It := ⟨97 :: dgR i, [32], if encs (97 :: dgR i) ∈ kws then 2 else 1, 0⟩
theorem dgF_len {i : Nat} (h : i < 100) : (encs (dgR i)).length ≤ 2 := by
  rw [encs_ascii_length _ (fun r hr => (dgR_dig i i (Nat.le_refl _) r hr).2)]
  exact dgR_len i 1 (by omega)
theorem itF_good (i : Nat) (h : i < 100) : (itF i).Good :=
  It.name (a := 97) (t := dgR i) (by decide) (fun x hx => by have := (dgR_dig i i (Nat.le_refl _) x hx).1; unfold isDig at this; simp [inNm, this]) (by rw [encs_cons, List.length_append]; have := dgF_len h; show 1 + _ ≤ 24; omega) (Gap.blank (by decide) Gap.nil) ⟨32, [], rfl, by decide⟩ _ rfl
def itsF (n : Nat) : List It := (List.range n).map itF
theorem itsF_length (n : Nat) : (itsF n).length = n := by simp [itsF]
theorem catF_succ (n : Nat) : encs (catI (itsF (n + 1))) = encs (catI (itsF n)) ++ ([97] ++ (encs (dgR n) ++ [32])) := by
  rw [show itsF (n + 1) = itsF n ++ [itF n] by simp [itsF, List.range_succ], catI_append, encs_append]
  simp only [catI, itF, List.append_nil, encs_append, encs_cons, encs_nil]
  rfl
theorem catF_len : ∀ n, n ≤ 100 → (encs (catI (itsF n))).length ≤ 4 * n
  | 0, _ => by simp [itsF, catI, encs]
  | n + 1, h => by
    have h1 := catF_len n (by omega)
    have h2 := dgF_len (i := n) (by omega)
    rw [catF_succ]
    simp only [List.length_append, List.length_cons, List.length_nil]
    omega
theorem catF_good : ∀ n, n ≤ 100 → ∀ r ∈ catI (itsF n), goodR r = true
  | 0, _, r, hr => by simp [itsF, catI] at hr
  | n + 1, h, r, hr => by
    rw [show itsF (n + 1) = itsF n ++ [itF n] by simp [itsF, List.range_succ], catI_append] at hr
    rcases List.mem_append.1 hr with hr | hr
    · exact catF_good n (by omega) r hr
    · simp only [catI, itF, List.append_nil] at hr
      have dg : ∀ r ∈ dgR n, goodR r = true := fun r hr => by
        have := (dgR_dig n n (Nat.le_refl _) r hr).1
        unfold isDig digB at this
        have := of_decide_eq_true this
        have key : ∀ r, r < 58 → 48 ≤ r → goodR r = true := by decide
        exact key r (by omega) (by omega)
      rcases List.mem_append.1 hr with hr | hr
      · rcases List.mem_cons.1 hr with rfl | hr
        · decide
        · exact dg r hr
      · simp at hr
        subst hr
        decide
def tksF (n : Nat) : List Tk := tkI (catI (itsF n)).length 0 (itsF n) ++ [⟨0, (catI (itsF n)).length, [], 0⟩]
theorem tksF_length (n : Nat) : (tksF n).length = n + 1 := by simp [tksF, tkI_length, itsF_length]
theorem lexF (n : Nat) (hn : n ≤ 100) (S : ByteArray) (hS : S.data.toList = encs (catI (itsF n))) : LexIs S (tksF n) none :=
  lexIs_encs hS (catF_good n hn) fun hok => lx_all hok _ (fun x hx => by
    obtain ⟨k, hk, rfl⟩ := List.mem_map.1 hx
    exact itF_good k (by have := List.mem_range.1 hk; omega)) rfl
theorem tksF_text (n k : Nat) (hk : k < n) (t : Tk) (ht : (tksF n)[k]? = some t) : t.text = 97 :: encs (dgR k) := by
  have h1 : k < (tkI (catI (itsF n)).length 0 (itsF n)).length := by rw [tkI_length, itsF_length]; exact hk
  have h2 := tkI_text (catI (itsF n)).length 0 (itsF n) k (by rw [itsF_length]; exact hk)
  unfold tksF at ht
  rw [List.getElem?_append_left h1, List.getElem?_eq_getElem h1] at ht
  cases ht
  rw [h2]
  simp only [itsF, itF, List.getElem_map, List.getElem_range]
  rw [encs_cons]
  rfl
/-- What the loop over the tokens has in its cells. -/
structure LfC (w : World) (m k j : Nat) (last : ByteArray) (W : World) : Prop where
  r : Boxed W w.heap.size 4 (.bool false)
  ck : Boxed W m 3 (.int .i64 (k : Int))
  cj : Boxed W (m + 1) 3 (.int .i64 (j : Int))
  cl : Boxed W (m + 1 + 1) 9 (.string last)
  le : j ≤ k
  bel : Below w.heap.size w W
theorem LfC.grown {w W W' : World} {m k j : Nat} {last : ByteArray} {row : Option Nat} (h : LfC w m k j last W) (hm : w.heap.size < m) (hg : W.grownBy W' row) (hr : ∀ r, row = some r → m + 3 ≤ r) : LfC w m k j last W' := by
  have hl := h.cl.lt
  exact ⟨h.r.kept hg (fun e => by have := hr _ e.symm; omega), h.ck.kept hg (fun e => by have := hr _ e.symm; omega), h.cj.kept hg (fun e => by have := hr _ e.symm; omega), h.cl.kept hg (fun e => by have := hr _ e.symm; omega), h.le, h.bel.grown hg (by omega) (fun r e => by have := hr r e; omega)⟩
theorem LfC.setL {w W : World} {m k j : Nat} {last : ByteArray} (h : LfC w m k j last W) (hm : w.heap.size < m) (s : ByteArray) : LfC w m k j s (W.setCell ⟨m + 1 + 1, 0, none⟩ (.string s)) :=
  ⟨h.r.kept (grownBy_setCell' _ _ _) (by simp; omega), h.ck.kept (grownBy_setCell' _ _ _) (by simp; omega), h.cj.kept (grownBy_setCell' _ _ _) (by simp), h.cl.set _, h.le, h.bel.setCell (p := ⟨m + 1 + 1, 0, none⟩) (by show _ ≤ m + 1 + 1; omega) _⟩
theorem LfC.setJ {w W : World} {m k j : Nat} {last : ByteArray} (h : LfC w m k j last W) (hm : w.heap.size < m) (i : Nat) (hi : i ≤ k) : LfC w m k i last (W.setCell ⟨m + 1, 0, none⟩ (.int .i64 (i : Int))) :=
  ⟨h.r.kept (grownBy_setCell' _ _ _) (by simp; omega), h.ck.kept (grownBy_setCell' _ _ _) (by simp), h.cj.set _, h.cl.kept (grownBy_setCell' _ _ _) (by simp), hi, h.bel.setCell (p := ⟨m + 1, 0, none⟩) (by show _ ≤ m + 1; omega) _⟩
def LfI (w : World) (m k : Nat) (pre : List Ev) (W : World) : Prop := ∃ last, LfC w m k pre.length last W
def LfX (w : World) (m k : Nat) (c : Code) (pre : List Ev) (W : World) : Prop :=
  (c = .exit 2 ∧ ∃ q t, pre = q ++ [.tok t] ∧ q.length = k ∧ LfC w m k k ⟨t.text.toArray⟩ W) ∨ (c = .ret ∧ ∃ q c p b, pre = q ++ [.bad c p b])
theorem came_tok {l : List Tk} {q : List Ev} {t : Tk} (h : Came l none (q ++ [.tok t])) : l[q.length]? = some t := by
  obtain ⟨ys, hy, r, hr⟩ := h
  have hy : ys = l.map .tok := hy
  have h1 : ys[q.length]? = some (Ev.tok t) := by rw [← hr]; simp
  rw [hy, List.getElem?_map] at h1
  cases hl : l[q.length]? with
  | none => rw [hl] at h1; cases h1
  | some x => rw [hl] at h1; simp at h1; rw [h1]
theorem came_bad' {l : List Tk} {q : List Ev} {c p b : Nat} (h : Came l none (q ++ [.bad c p b])) : False := by
  obtain ⟨ys, hy, hp⟩ := h
  have hm : Ev.bad c p b ∈ ys := hp.subset (by simp)
  rw [show ys = l.map .tok from hy] at hm
  obtain ⟨t, _, ht⟩ := List.mem_map.1 hm
  cases ht
theorem number_pos (z b : Int) (hb : 0 < b) : ∃ k : Nat, z % b = (k : Int) ∧ (k : Int) < b := ⟨(z % b).toNat, by have := Int.emod_nonneg z (show b ≠ 0 by omega); omega, by have := Int.emod_nonneg z (show b ≠ 0 by omega); have := Int.emod_lt_of_pos z hb; omega⟩

set_option maxRecDepth 100000 in
set_option maxHeartbeats 4000000 in
theorem lexLeft_raw (z y : Int) (w : World) (er : Nat → Addr) (hE : Lerr w er) (hT : Tab w) :
    Calls Tryd.prog 6 #[.int .i64 z, .int .i64 y] w (RetYes w) := by
  obtain ⟨n0, hn0, hn1⟩ := number_pos z 30 (by decide)
  obtain ⟨n, hn⟩ : ∃ n, n = n0 + 1 := ⟨_, rfl⟩
  obtain ⟨k, hk0, hk1⟩ := number_pos y (n : Int) (by omega)
  have HN1 := Lib.hid (fun W => number_any z 30 W (by decide) (by decide))
  have HN2 := Lib.hid (fun W => number_any y (n : Int) W (by omega) (by omega))
  rw [hn0] at HN1
  rw [hk0] at HN2
  have hnI : (n0 : Int) + 1 = (n : Int) := by omega
  have hnl : n ≤ 30 := by omega
  have hkn : k < n := by omega
  obtain ⟨W0, hW0⟩ : ∃ W0, W0 = w.alloc (.cells #[.bool false] 4) := ⟨_, rfl⟩
  have hb0 : Boxed W0 w.heap.size 4 (.bool false) := by rw [hW0]; exact Boxed.new w _ _
  have hB0 : Below w.heap.size w W0 := by rw [hW0]; exact (Below.refl _ _).alloc (Nat.le_refl _) _
  have HF := Lib.hid (lfirst_any er W0 (hE.below hB0))
  have HE0 := Lib.hid (hE.below hB0)
  have HT0 := Lib.hid (hT.below hB0)
  have HTw := Lib.hid hT
  have HB0 := Lib.hid hB0
  have Hb0 := Lib.hid hb0
  have HW0 := Lib.hid hW0
  clear hn0 hn1 hk0 hk1 hn hE hT hB0 hb0
  refine (callsIn_wide (n := 3)).1 ?_
  refine callsIn_of_wp_marks Tryd.func6 rfl trivial ?_ rfl
  simp only [Tryd.ntmps6, List.size_toArray, List.length_cons, List.length_nil, Nat.reduceAdd, Nat.reduceSub, Array.replicate_succ, Array.replicate_zero, List.push_toArray, List.append_toArray, List.nil_append, List.cons_append]
  refine wpIn_wide.2 ?_
  go_wp2_with fail
  rw [← HW0.out]
  clear HW0 hW0
  refine HF.out.mono ?_
  rintro e w1 ⟨rfl, hB1⟩
  go_wp2_with fail
  refine (HN1.out _).mono ?_
  rintro e w2 ⟨rfl, rfl⟩
  have HB1 := Lib.hid (HB0.out.trans (hB1.mono HB0.out.size))
  have Hb1 := Lib.hid (show Boxed w1 w.heap.size 4 (.bool false) from (hB1.block _ Hb0.out.lt).trans Hb0.out)
  have HE1 := Lib.hid (HE0.out.below hB1)
  have HT1 := Lib.hid (HT0.out.below hB1)
  clear hB1 HF HN1 HE0 HT0 HB0 Hb0
  go_wp2
  go_loopw [6, 7] (fun x i wr => ∃ (j : Nat) (S : ByteArray), j ≤ n ∧ x = .string S ∧ S.data.toList = encs (catI (itsF j)) ∧ i = .int .i64 (j : Int) ∧ Below w1.heap.size w1 wr) (fun _ i _ => n - (RowKit.intOf i).toNat)
  case atStart => exact ⟨0, ⟨#[]⟩, Nat.zero_le _, rfl, by simp [itsF, catI, encs], rfl, Below.refl _ _⟩
  case round =>
    obtain ⟨j, S, hj, rfl, hS, rfl, hB⟩ := hrel
    have hsz : S.size ≤ 120 := by have := S_size hS; have := catF_len j (by omega); omega
    have HS := Lib.hid hS
    have HB := Lib.hid hB
    clear hS hB
    by_cases hp : j < n
    · have HNum := Lib.hid (num_any' j wr (by omega) (HT1.out.below HB.out))
      have hdl : (dig j).length ≤ 2 := by rw [dig_dgR j j (Nat.le_refl _)]; exact dgF_len (by omega)
      obtain ⟨D, hD⟩ : ∃ D : ByteArray, D = ⟨(dig j).toArray⟩ := ⟨_, rfl⟩
      rw [← hD] at HNum
      have hDz : D.size ≤ 2 := by rw [hD]; exact hdl
      have HG : Hid ((S ++ ⟨#[97]⟩ ++ D ++ ⟨#[32]⟩ : ByteArray).data.toList = encs (catI (itsF (j + 1)))) := Lib.hid (by
        rw [catF_succ, hD, dig_dgR j j (Nat.le_refl _)]
        simp only [ByteArray.data_append, Array.toList_append, HS.out, List.append_assoc])
      clear hD hdl
      go_wp2_with fail
      refine HNum.out.mono ?_
      rintro e w5 ⟨rfl, hB5⟩
      have HB5 := Lib.hid (HB.out.trans (hB5.mono HB.out.size))
      clear hB5
      go_wp2
      go_roundw
      case rel => exact ⟨j + 1, _, by omega, rfl, HG.out, by go_num, HB5.out⟩
      case measure => simp [RowKit.intOf]; omega
    · obtain rfl : j = n := by omega
      have HLx := Lib.hid (lexF j (by omega) S HS.out)
      have HNm := Lib.hid (fun W => HN2.out W)
      clear HN2
      go_wp2_with fail
      refine (HNm.out _).mono ?_
      rintro e w5 ⟨rfl, rfl⟩
      go_wp2_with fail
      refine (tokens_mk S _).mono ?_
      rintro e w6 ⟨rfl, rfl⟩
      go_wp2_with fail
      have hm : w.heap.size < wr.heap.size := by have h1 := Hb1.out.lt; have h2 := HB.out.size; omega
      have hBr := HB1.out.trans (HB.out.mono HB1.out.size)
      have hbr : Boxed wr w.heap.size 4 (.bool false) := (HB.out.block _ Hb1.out.lt).trans Hb1.out
      have hB4 : Below wr.heap.size wr ((((wr.alloc (.cells #[.int .i64 (k : Int)] 3)).alloc (.cells #[.int .i64 0] 3)).alloc (.cells #[.string { data := #[] }] 9)).alloc (.cells #[.string S] 9)) := ((((Below.refl _ wr).alloc (Nat.le_refl _) _).alloc (by simp) _).alloc (by simp; omega) _).alloc (by simp; omega) _
      have hz4 : ((((wr.alloc (.cells #[.int .i64 (k : Int)] 3)).alloc (.cells #[.int .i64 0] 3)).alloc (.cells #[.string { data := #[] }] 9)).alloc (.cells #[.string S] 9)).heap.size = wr.heap.size + 4 := by simp
      have hb1 := Boxed.new wr 3 (.int .i64 (k : Int))
      have hb2 := Boxed.new (wr.alloc (.cells #[.int .i64 (k : Int)] 3)) 3 (.int .i64 0)
      have hb3 := Boxed.new ((wr.alloc (.cells #[.int .i64 (k : Int)] 3)).alloc (.cells #[.int .i64 0] 3)) 9 (.string { data := #[] })
      have hb4 := Boxed.new (((wr.alloc (.cells #[.int .i64 (k : Int)] 3)).alloc (.cells #[.int .i64 0] 3)).alloc (.cells #[.string { data := #[] }] 9)) 9 (.string S)
      simp only [World.size_alloc] at hb2 hb3 hb4
      have hEr := HE1.out.below HB.out
      have hC0 : LfC w wr.heap.size k ([] : List Ev).length { data := #[] } ((((wr.alloc (.cells #[.int .i64 (k : Int)] 3)).alloc (.cells #[.int .i64 0] 3)).alloc (.cells #[.string { data := #[] }] 9)).alloc (.cells #[.string S] 9)) :=
        ⟨(((hbr.alloc _).alloc _).alloc _).alloc _, ((hb1.alloc _).alloc _).alloc _, (hb2.alloc _).alloc _, hb3.alloc _, Nat.zero_le _, hBr.trans (hB4.mono (by omega))⟩
      have HST := Lib.hid (tokens_el 2 (by omega) (wr.heap.size + 1 + 1 + 1) S (by omega) er (tksF j) none HLx.out _ (by rw [hz4]; omega) hb4.cell (hEr.below hB4))
      have HC0 := Lib.hid hC0
      have HZ := Lib.hid hz4
      have HEr := Lib.hid hEr
      have HTr := Lib.hid (HT1.out.below HB.out)
      have hkl : k ≤ 30 := by omega
      clear hb1 hb2 hb3 hb4 hC0 hz4 hB4 hEr hBr hbr HB HB1 Hb1 HE1 HT1 HLx HS HNm
      refine (wpIn_wide (n := 3)).1 ?_
      refine range_el rfl (by omega) (gf := 42) (lb := #[.pointer (some ⟨wr.heap.size + 1 + 1 + 1, 0, none⟩)]) rfl trivial (enters_of Tryd.func42 (by kernel_rfl) rfl) HST.out KeepTok.trans
        (fun W l o o' hl ho hc _ => KeepTok.putObj HEr.out o' (by rw [HZ.out] at hl; omega) ho hc) (Below.refl _ _) (fun x => by rw [evV_eq]; rfl)
        (fun pre W => LfI w wr.heap.size k pre W)
        (fun c pre W => LfX w wr.heap.size k c pre W)
        (fun s A B row hs hg hr => by
          obtain ⟨last, h⟩ := hs
          exact ⟨last, h.grown hm hg fun r e => by have := (hr r e).1; rw [HZ.out] at this; omega⟩)
        (fun c s A B row hs hg hr => by
          rcases hs with ⟨h1, q, t, h2, h3, h4⟩ | h
          · exact .inl ⟨h1, q, t, h2, h3, h4.grown hm hg fun r e => by have := (hr r e).1; rw [HZ.out] at this; omega⟩
          · exact .inr h)
        ⟨_, HC0.out⟩
        (fun x a W => ∃ b : Nat, wr.heap.size + 3 ≤ b ∧ Blk W b 37 (LT.enc (tokT x)).toArray ∧ a = { tmps := #[.int .i64 (j : Int), .int .i64 y, undef, undef, .pointer (some ⟨w.heap.size, 0, none⟩), .bool true, .string S, .int .i64 (j : Int), .pointer (some ⟨wr.heap.size, 0, none⟩), .pointer (some ⟨wr.heap.size + 1, 0, none⟩), .pointer (some ⟨wr.heap.size + 1 + 1, 0, none⟩), .pointer (some ⟨b, 0, none⟩), errV x, .bool true, .bool true, .bool false, .int .i64 z, .int .i64 (n0 : Int), .int .i64 (j : Int), .int .i64 (j : Int), .int .i64 (j : Int), .bool false, u22, u23, u24, u25, u26, u27, u28, u29, .int .i64 y, .int .i64 (j : Int), .int .i64 (k : Int), .string S, .func (.func 42) #[] #[.pointer (some ⟨wr.heap.size + 1 + 1 + 1, 0, none⟩)], tkV (tokT x), errV x, undef, undef, undef, undef, undef, undef, undef, undef, undef, undef, undef, undef, undef, undef, undef, undef, undef, undef, undef, undef, undef, undef], defers := [] })
        (fun x a' _ A B row hs hg hr => by
          obtain ⟨b, h2, h3, h4⟩ := hs
          exact ⟨b, h2, blk_own h3 hg hr, h4⟩)
        ?assign ?body ?done ?stop
      case assign =>
        rintro lp pre x W K ⟨last, hC⟩ hel hK
        have hsz : wr.heap.size + 3 ≤ W.heap.size := by have := hC.cl.lt; omega
        have HIn : Hid (∀ o, LfI w wr.heap.size k pre (W.alloc o)) := Lib.hid fun o => ⟨last, hC.grown hm (World.grownBy_alloc W o none) (fun r e => by cases e)⟩
        clear hC hel
        rw [evV_eq]
        cases x with
        | tok t =>
          obtain ⟨kind, pos, text, nn⟩ := t
          dsimp only [tokT, errV, tkV]
          gi_wp2
          exact hK _ _ (KeepsFrom.of_grownBy (World.grownBy_alloc W _ none) (fun r e => by cases e)) (KeepTok.of_below ((Below.refl _ _).alloc (Nat.le_refl _) _)) (HIn.out _) ⟨_, hsz, heap_alloc_new W _, rfl⟩
        | bad c p b =>
          dsimp only [tokT, errV, tkV]
          gi_wp2
          exact hK _ _ (KeepsFrom.of_grownBy (World.grownBy_alloc W _ none) (fun r e => by cases e)) (KeepTok.of_below ((Below.refl _ _).alloc (Nat.le_refl _) _)) (HIn.out _) ⟨_, hsz, heap_alloc_new W _, rfl⟩
      case body =>
        rintro lp pre x a' W hlp hrec ⟨last, hC⟩ ⟨b, hb, hbk, rfl⟩ hlen
        have hle := hC.le
        obtain ⟨i, hi⟩ : ∃ i, i = pre.length := ⟨_, rfl⟩
        rw [← hi] at hC hle
        have HI := Lib.hid hi
        clear hi hlen
        cases x with
        | tok t =>
          obtain ⟨kind, pos, text, nn⟩ := t
          dsimp only [tokT, errV, tkV]
          obtain ⟨⟨c0, c1, c2, c3⟩, f0, f1, f2, f3⟩ := blk4 (show Blk W b _ #[.int .i64 (kind : Int), .int .i64 (pos : Int), .string ⟨text.toArray⟩, .int .i64 (nn : Int)] from hbk)
          have h1 := hC.setL hm ⟨text.toArray⟩
          have hcl := hC.cl.cell
          have hclf := hC.cl.frozen
          have hcj := h1.cj.cell
          have hcjf := h1.cj.frozen
          have hck := h1.ck.cell
          have hE2 : Lerr wr er := HEr.out
          have hk1 := KeepTok.setBox hE2 (by omega) hC.cl (by decide) (by decide) (.string ⟨text.toArray⟩)
          have hk2 := hk1.trans (KeepTok.setBox hE2 (by omega) h1.cj (by decide) (by decide) (.int .i64 ((i : Int) + 1)))
          have H1 := Lib.hid h1
          have HK2 := Lib.hid hk2
          clear hC h1 hk1 hk2 hbk hE2
          by_cases hik : i = k
          · have hik' : ((i : Int) == (k : Int)) = true := by simp [hik]
            have HX : Hid (LfX w wr.heap.size k (.exit 2) (pre ++ [.tok ⟨kind, pos, text, nn⟩]) (W.setCell ⟨wr.heap.size + 1 + 1, 0, none⟩ (.string ⟨text.toArray⟩))) := Lib.hid (.inl ⟨rfl, pre, _, rfl, by rw [← HI.out]; exact hik, by have := H1.out; rw [hik] at this; exact this⟩)
            clear hik
            gi_wp2
            exact ⟨(KeepsOthers.setCell _ _ _).from _, HX.out⟩
          · have hik' : ((i : Int) == (k : Int)) = false := beq_eq_false_iff_ne.2 (by omega)
            have HX : Hid (LfI w wr.heap.size k (pre ++ [.tok ⟨kind, pos, text, nn⟩]) ((W.setCell ⟨wr.heap.size + 1 + 1, 0, none⟩ (.string ⟨text.toArray⟩)).setCell ⟨wr.heap.size + 1, 0, none⟩ (.int .i64 ((i : Int) + 1)))) := Lib.hid ⟨_, by
              rw [List.length_append, List.length_singleton, ← HI.out]
              exact H1.out.setJ hm (i + 1) (by omega)⟩
            clear hik
            gi_wp2
            exact ⟨((KeepsOthers.setCell _ _ _).trans (KeepsOthers.setCell _ _ _)).from _, HK2.out, HX.out⟩
        | bad c p b2 =>
          dsimp only [tokT, errV, tkV]
          have hr := hC.r.cell
          have hrf := hC.r.frozen
          have HX : Hid (LfX w wr.heap.size k .ret (pre ++ [.bad c p b2]) (W.setCell ⟨w.heap.size, 0, none⟩ (.bool false))) := Lib.hid (.inr ⟨rfl, pre, c, p, b2, rfl⟩)
          clear hC hbk
          gi_wp2
          exact ⟨(KeepsOthers.setCell _ _ _).from _, HX.out⟩
      case done =>
        rintro D ys W hD hS ⟨last, hC⟩ hK
        exfalso
        have hy : ys = (tksF j).map .tok := hS
        have h1 := hC.le
        rw [hy, List.length_map, tksF_length] at h1
        omega
      case stop =>
        rintro D c pre W hD hpre (⟨rfl, q, t, rfl, hq, hC⟩ | ⟨rfl, q, c, p, b, rfl⟩) hK
        · have ht := tksF_text j k (by omega) t (by have := came_tok hpre; rw [hq] at this; exact this)
          rw [ht, ← dig_dgR k k (Nat.le_refl _)] at hC
          rw [HZ.out] at hD
          have HNum := Lib.hid (num_any' k W.drew (by omega) ((HTw.out.below hC.bel).below (Below.refl _ W).drew))
          obtain ⟨X, hX⟩ : ∃ X : ByteArray, X = ⟨(97 :: dig k).toArray⟩ := ⟨_, rfl⟩
          obtain ⟨Dk, hDk⟩ : ∃ Dk : ByteArray, Dk = ⟨(dig k).toArray⟩ := ⟨_, rfl⟩
          have he : (X.toList == (⟨#[97]⟩ ++ Dk : ByteArray).toList) = true := by
            rw [ByteArray.toList_eq, ByteArray.toList_eq, ByteArray.data_append, Array.toList_append, hX, hDk]
            exact beq_iff_eq.2 (by simp)
          have hDz : Dk.size ≤ 2 := by
            rw [hDk]
            have := dgF_len (i := k) (by omega)
            rw [← dig_dgR k k (Nat.le_refl _)] at this
            exact this
          rw [← hX] at hC
          rw [← hDk] at HNum
          have hs1 : ¬ (9223372036854775807 < 1 + Dk.size) := by omega
          have hs2 : ¬ ((9223372036854775807 : Int) < 1 + (Dk.size : Int)) := by omega
          have hs3 : decide ((9223372036854775807 : Int) < 1 + (Dk.size : Int)) = false := by simp; omega
          have hs4 : 1 + Dk.size ≤ 9223372036854775807 := by omega
          have hj := hC.cj.cell
          have hk := hC.ck.cell
          have hl := hC.cl.cell
          have HCd := Lib.hid hC
          have HKd := Lib.hid hK
          clear hX hDk ht hC hK hpre hq
          gi_wp2
          go_wp2
          have n1 : ¬ wr.heap.size = w.heap.size := by omega
          have n2 : ¬ wr.heap.size + 1 = w.heap.size := by omega
          have n3 : ¬ wr.heap.size + 1 + 1 = w.heap.size := by omega
          have n4 : ¬ w.heap.size = wr.heap.size := by omega
          have n5 : ¬ w.heap.size = wr.heap.size + 1 := by omega
          have n6 : ¬ w.heap.size = wr.heap.size + 1 + 1 := by omega
          go_region_held3 (fun W => W.cell? ⟨wr.heap.size, 0, none⟩ = some (.int .i64 (k : Int)) ∧ W.cell? ⟨wr.heap.size + 1, 0, none⟩ = some (.int .i64 (k : Int)) ∧ W.cell? ⟨wr.heap.size + 1 + 1, 0, none⟩ = some (.string X)) (go_keep)
            (first | (go_at_call 23; refine HNum.out.mono ?_; rintro e w7 ⟨rfl, hB7⟩; have q0 := (hB7.cell (p := ⟨wr.heap.size, 0, none⟩) HCd.out.ck.lt).trans HCd.out.ck.cell; have q1 := (hB7.cell (p := ⟨wr.heap.size + 1, 0, none⟩) HCd.out.cj.lt).trans HCd.out.cj.cell; have q2 := (hB7.cell (p := ⟨wr.heap.size + 1 + 1, 0, none⟩) HCd.out.cl.lt).trans HCd.out.cl.cell; have q3 : Boxed w7 w.heap.size 4 (.bool false) := (hB7.block _ HCd.out.r.lt).trans HCd.out.r; have q4 := q3.cell; have q5 := q3.frozen; have q6 := Lib.hid (HCd.out.bel.trans ((Below.refl _ W).drew.trans (hB7.mono HCd.out.bel.size))); have q7 := Lib.hid ((hB7.block D (Array.getElem?_eq_some_iff.1 HKd.out).1).trans HKd.out); have q8 := Lib.hid q3))
          have hfin := q8.out.set (.bool true)
          have HFin := Lib.hid hfin
          have hK7 := (KeepsOthers.setCell w7 ⟨w.heap.size, 0, none⟩ (.bool true)).same D _ q7.out rfl
          have HK7 := Lib.hid hK7
          have HB : Hid (Below w.heap.size w ((w7.setCell ⟨w.heap.size, 0, none⟩ (.bool true)).putObj D (.deferred none))) := Lib.hid ((q6.out.setCell (p := ⟨w.heap.size, 0, none⟩) (Nat.le_refl _) _).trans (belowK_b (w := w) (Nat.le_refl _) _ D _ _ (by omega) hK7 rfl rfl))
          have hres := (hfin.kept (grownBy_putObj' _ D (.deferred none)) (fun e => by cases e; omega)).cell
          have HRes := Lib.hid hres
          clear hfin hK7 hres q0 q1 q2 q3 q4 q5
          go_wp2
          have hres := HRes.out
          refine ⟨by simp, .inl ⟨_, _, rfl, run_takeDeferred HK7.out, ?_⟩⟩
          exact ⟨.bool true, by simp [results, Tryd.results6, go_sem, hres], rfl, HB.out⟩
        · exact absurd (came_bad' hpre) id
theorem lexLeft_walk (z y : Int) (w : World) (_ : (Lit.int .i64 z).wf = true) (_ : (Lit.int .i64 y).wf = true) (hL : laidMetH Tryd.prog laid8 w) :
    Calls Tryd.prog 6 #[.int .i64 z, .int .i64 y] w (RetYes w) := by
  obtain ⟨er, hE, hT⟩ := of8 hL
  exact lexLeft_raw z y w er hE hT
end Go.Proofs.YteceipngknhcfaaDoor
