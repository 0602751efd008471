/-
  The walk of the iterator that Tokens hands back. Conditions: each theorem's own premises.
-/
import Derived.Test.YtndagbmcdpafjaaDoorQLxH
namespace Go.Proofs.YtndagbmcdpafjaaDoor
open Go.Shelf Go.RowKit Go.Lib
attribute [local go_sem] Oper.semAt_some

theorem tokens_mk (s : ByteArray) (w : World) : Calls Tryd.prog 23 #[.string s] w fun e w' => e = .returned (.func (.func 51) #[] #[.pointer (some ⟨w.heap.size, 0, none⟩)]) ∧ w' = w.alloc (.cells #[.string s] 9) := by
  go_enter Tryd.func23, Tryd.ntmps23
  go_wp2
  go_ret
  exact ⟨rfl, rfl⟩
theorem abides_below {β : Type} {B : Nat} {J : β → World → Prop} (h : AbidesFrom B J) {x : β} {W W' : World} (hJ : J x W) (hb : Below W.heap.size W W') : J x W' :=
  h x W W' none hJ ⟨hb.os, hb.tape, hb.output, hb.size, fun k hk _ => hb.block k hk⟩ (fun r e => by cases e)
theorem abides_later {β : Type} {B B' : Nat} {J : β → World → Prop} (h : AbidesFrom B J) (hB : B ≤ B') : AbidesFrom B' J := fun s W W' row hs hg hr => h s W W' row hs hg fun r e => ⟨Nat.le_trans hB (hr r e).1, (hr r e).2⟩
theorem came_mid {l l2 : List Tk} {f : Option (Nat × Nat)} {pre : List Tk} (h : l = pre ++ l2) : Came l f (pre.map .tok) := by
  subst h
  cases f with
  | none => exact ⟨_, rfl, by rw [List.map_append]; exact List.prefix_append _ _⟩
  | some cp => exact ⟨_, ⟨0, rfl⟩, by rw [List.map_append, List.append_assoc]; exact List.prefix_append _ _⟩

set_option maxRecDepth 100000 in
set_option maxHeartbeats 4000000 in
theorem tokens1_in (q : Nat) (hq : 1 ≤ q) (lp bS : Nat) (s : ByteArray) (hs : s.size ≤ 4096) (er : Nat → Addr) (l : List Tk) (f : Option (Nat × Nat)) (hL : LexIs s l f) (J Jx : List Ev → World → Prop)
    (hY : ∀ pre x W, J pre W → evEl er x W → pre.length < l.length + 1 → YieldAt Fence.wide (q - 1) Tryd.prog lp (evV x) W fun e W' =>
      (e = .returned (.bool true) ∧ J (pre ++ [x]) W' ∧ KeepTok W W') ∨ (e = .returned (.bool false) ∧ Jx (pre ++ [x]) W'))
    (W : World) (hS : W.cell? ⟨bS, 0, none⟩ = some (.string s)) (hE : Lerr W er) (h0 : J [] W) (hd : AbidesFrom W.heap.size J) :
    CallsIn Fence.wide q Tryd.prog 51 #[.func (.yield lp) #[] #[], .pointer (some ⟨bS, 0, none⟩)] W fun e W' => (∃ v, e = .returned v) ∧ ((∃ ys, Comes l f ys ∧ J ys W') ∨ (∃ pre, Came l f pre ∧ Jx pre W')) := by
  refine callsIn_of_wp Tryd.func51 rfl trivial ?_ rfl
  simp only [Tryd.ntmps51, List.size_toArray, List.length_cons, List.length_nil, Nat.reduceAdd, Nat.reduceSub, Array.replicate_succ, Array.replicate_zero, List.push_toArray, List.append_toArray, List.nil_append, List.cons_append]
  have HV := Lib.hid (valid_any s W (er 4) hs hE.rune)
  gi_wp2_with fail
  refine ⟨trivial, callsIn_wide.2 (HV.out.mono ?_)⟩
  rintro e W1 ⟨hB1, ⟨hn, rfl⟩ | ⟨p, b, hbd, rfl, hblk⟩⟩
  · obtain ⟨C, W2, hcv, hC, hB2, hR2, hz2⟩ := conv_runes s hs W1
    obtain ⟨hok, hen⟩ := noBad.rns hn
    have hrl : (rns s.data.toList).length ≤ 4096 := by
      have := pcs_len s.data.toList
      unfold rns
      simp at this ⊢
      omega
    have hlx : (l, f) = lx (rns s.data.toList) 0 := by
      rcases hL with h | ⟨p, h, _⟩
      · exact h.2
      · exact absurd hn (badAt_not h)
    obtain ⟨R, hR⟩ : ∃ R, R = rns s.data.toList := ⟨_, rfl⟩
    rw [← hR] at hcv hC hR2 hok hrl hlx
    obtain ⟨len, hlen⟩ : ∃ len, len = R.length := ⟨_, rfl⟩
    rw [← hlen] at hcv hC hrl
    have hJ2 : J [] W2 := abides_below hd (abides_below hd h0 hB1) hB2
    have hE2 : Lerr W2 er := (hE.below hB1).below hB2
    have HJ2 := Lib.hid hJ2
    have HE2 := Lib.hid hE2
    have HR2 := Lib.hid hR2
    have HLx := Lib.hid hlx
    have HLen := Lib.hid hlen
    have HOk := Lib.hid hok
    have HY := Lib.hid hY
    have HD := Lib.hid hd
    have hS1 : W1.cell? ⟨bS, 0, none⟩ = some (.string s) := (hB1.cell (p := ⟨bS, 0, none⟩) (World.block_lt_of_cell? W _ hS)).trans hS
    have hW2 : W.heap.size ≤ W2.heap.size := by have := hB1.size; have := hB2.size; omega
    obtain ⟨g, hg⟩ : ∃ g, g = W1.heap.size := ⟨_, rfl⟩
    rw [← hg] at hcv HR2
    clear hJ2 hE2 hR2 hlx hlen hok hY hd h0 hL hen hR hn hB2 hg hz2 HV hE
    gi_wp2
    gi_loopw [5] (fun x wr => ∃ (p : Nat) (pre : List Tk), p ≤ len ∧ x = .int .i64 (p : Int) ∧ l = pre ++ (lx R p).1 ∧ f = (lx R p).2 ∧ Rns wr g R ∧ Lerr wr er ∧ J (pre.map .tok) wr ∧ W.heap.size ≤ wr.heap.size)
      (fun x _ => len - (RowKit.intOf x).toNat)
    case atStart => exact ⟨0, [], Nat.zero_le _, rfl, congrArg Prod.fst HLx.out, congrArg Prod.snd HLx.out, HR2.out, HE2.out, HJ2.out, hW2⟩
    case round =>
      obtain ⟨p, pre, hp, rfl, hl1, hf1, hRw, hEw, hJw, hWw⟩ := hrel
      have HRd := Lib.hid (read_any g C R len p er wr HLen.out hp (by omega) hC hRw HOk.out hEw)
      have HRw := Lib.hid hRw
      have HEw := Lib.hid hEw
      have HJw := Lib.hid hJw
      have HL1 := Lib.hid hl1
      have HF1 := Lib.hid hf1
      clear hRw hEw hJw hl1 hf1
      cases hr : rd R p with
      | bad c qp =>
        rw [hr] at HRd
        have HB := Lib.hid (lx_bad hr)
        clear hr
        gi_wp2_with fail
        refine ⟨trivial, callsIn_wide.2 (HRd.out.mono ?_)⟩
        rintro e W3 ⟨hB3, b, hb3, rfl, hblk⟩
        dsimp only [tkV]
        simp only [show ((0 : Nat) : Int) = 0 from rfl]
        have hE0 : evEl er (.bad c qp b) (W3.alloc (.cells #[.int .i64 0, .int .i64 0, .string { data := #[] }, .int .i64 0] 37)) := hblk.alloc _
        have hJ0 : J (pre.map .tok) (W3.alloc (.cells #[.int .i64 0, .int .i64 0, .string { data := #[] }, .int .i64 0] 37)) := abides_below HD.out (abides_below HD.out HJw.out hB3) ((Below.refl _ _).alloc (Nat.le_refl _) _)
        obtain ⟨fn, tmps, assign, body, hy, hRo⟩ := HY.out _ _ _ hJ0 hE0 (by rw [HL1.out, List.length_map, List.length_append]; omega)
        dsimp only [evV, tkV] at hy
        simp only [show ((0 : Nat) : Int) = 0 from rfl] at hy
        have hll : l = pre := by rw [HL1.out, HB.out, List.append_nil]
        have hff : f = some (c, qp) := by rw [HF1.out, HB.out]
        have HC : Hid (Comes l f (pre.map .tok ++ [.bad c qp b])) := Lib.hid (by subst hll hff; exact ⟨b, rfl⟩)
        clear hE0 hJ0 hll hff hblk hB3 hb3
        gi_wp2
        refine hRo.mono ?_
        rintro e2 W4 (⟨rfl, hJ4, hk4⟩ | ⟨rfl, hJx4⟩)
        · gi_wp2
          refine bodyPost_ret (results_none rfl _ _ _) rfl ?_
          exact ⟨⟨_, rfl⟩, .inl ⟨_, HC.out, hJ4⟩⟩
        · gi_wp2
          refine bodyPost_ret (results_none rfl _ _ _) rfl ?_
          exact ⟨⟨_, rfl⟩, .inr ⟨_, ⟨_, HC.out, List.prefix_refl _⟩, hJx4⟩⟩
      | tok t k =>
        rw [hr] at HRd
        have HSt := Lib.hid (rd_step HOk.out (by have := HLen.out; omega) hr)
        have HEn := Lib.hid (lx_end (R := R) (i := p) hr)
        have HMo := Lib.hid (lx_more HOk.out (by have := HLen.out; omega) hr)
        clear hr
        obtain ⟨kind, pos, text, n⟩ := t
        gi_wp2_with fail
        refine ⟨trivial, callsIn_wide.2 (HRd.out.mono ?_)⟩
        rintro e W3 ⟨hB3, rfl⟩
        dsimp only [tkV]
        have hE0 : evEl er (.tok ⟨kind, pos, text, n⟩) (W3.alloc (.cells #[.int .i64 (kind : Int), .int .i64 (pos : Int), .string ⟨text.toArray⟩, .int .i64 (n : Int)] 37)) := trivial
        have hB4 : Below W3.heap.size W3 (W3.alloc (.cells #[.int .i64 (kind : Int), .int .i64 (pos : Int), .string ⟨text.toArray⟩, .int .i64 (n : Int)] 37)) := (Below.refl _ _).alloc (Nat.le_refl _) _
        have hJ0 := abides_below HD.out (abides_below HD.out HJw.out hB3) hB4
        have hR0 := (HRw.out.below hB3 HRw.out.lt).below hB4 (by have := HRw.out.lt; have := hB3.size; omega)
        have hE4 := (HEw.out.below hB3).below hB4
        have hT0 : Blk (W3.alloc (.cells #[.int .i64 (kind : Int), .int .i64 (pos : Int), .string ⟨text.toArray⟩, .int .i64 (n : Int)] 37)) W3.heap.size _ _ := heap_alloc_new W3 _
        have hlt : (pre.map Ev.tok).length < l.length + 1 := by rw [HL1.out, List.length_map, List.length_append]; omega
        obtain ⟨fn, tmps, assign, body, hy, hRo⟩ := HY.out _ _ _ hJ0 hE0 hlt
        dsimp only [evV, tkV] at hy
        have HR0 := Lib.hid hR0
        have HE4 := Lib.hid hE4
        have HT0 := Lib.hid hT0
        have hsz3 := hB3.size
        clear hE0 hJ0 hR0 hE4 hT0 hB4 hB3 hlt
        by_cases hk0 : kind = 0
        · subst hk0
          simp only [show ((0 : Nat) : Int) = 0 from rfl] at hy hRo HT0
          have hll : l = pre ++ [⟨0, pos, text, n⟩] := by rw [HL1.out, HEn.out rfl]
          have hff : f = none := by rw [HF1.out, HEn.out rfl]
          have HC : Hid (Comes l f (pre.map .tok ++ [.tok ⟨0, pos, text, n⟩])) := Lib.hid (by rw [hll, hff]; show _ = _; simp)
          clear hll hff
          gi_wp2
          refine hRo.mono ?_
          rintro e2 W4 (⟨rfl, hJ4, hk4⟩ | ⟨rfl, hJx4⟩)
          · obtain ⟨cs4, hcs4, hcs0⟩ := hk4.toks _ _ HT0.out
            have hc0 : W4.cell? ⟨W3.heap.size, 0, none⟩ = some (.int .i64 0) := by
              have : Blk W4 W3.heap.size 37 cs4 := hcs4
              rw [this.cell 0, hcs0]
              rfl
            clear hcs4 hcs0
            gi_wp2
            refine bodyPost_ret (results_none rfl _ _ _) rfl ?_
            exact ⟨⟨_, rfl⟩, .inl ⟨_, HC.out, hJ4⟩⟩
          · gi_wp2
            refine bodyPost_ret (results_none rfl _ _ _) rfl ?_
            exact ⟨⟨_, rfl⟩, .inr ⟨_, ⟨_, HC.out, List.prefix_refl _⟩, hJx4⟩⟩
        · have hki : ((kind : Int) == 0) = false := beq_eq_false_iff_ne.2 (by omega)
          have hst : p < k ∧ k ≤ len := by
            rcases HSt.out with ⟨h, _⟩ | ⟨_, h1, h2⟩
            · exact absurd h hk0
            · exact ⟨h1, by rw [HLen.out]; exact h2⟩
          have hll : l = (pre ++ [⟨kind, pos, text, n⟩]) ++ (lx R k).1 := by rw [HL1.out, HMo.out hk0, List.append_assoc]; rfl
          have hff : f = (lx R k).2 := by rw [HF1.out, HMo.out hk0]
          have HLL := Lib.hid hll
          have HFF := Lib.hid hff
          obtain ⟨hpk, hkl⟩ := hst
          clear hll hff hk0
          gi_wp2
          refine hRo.mono ?_
          rintro e2 W4 (⟨rfl, hJ4, hk4⟩ | ⟨rfl, hJx4⟩)
          · obtain ⟨cs4, hcs4, hcs0⟩ := hk4.toks _ _ HT0.out
            have hc0 : W4.cell? ⟨W3.heap.size, 0, none⟩ = some (.int .i64 (kind : Int)) := by
              have : Blk W4 W3.heap.size 37 cs4 := hcs4
              rw [this.cell 0, hcs0]
              rfl
            obtain ⟨kz, hkz⟩ := HR0.out
            have HR4 : Hid (Rns W4 g R) := Lib.hid ⟨kz, hk4.runes _ _ hkz⟩
            have HE5 := Lib.hid (hk4.errs er HE4.out)
            have hsz4 : W3.heap.size < W4.heap.size := (Array.getElem?_eq_some_iff.1 hcs4).1
            clear hcs4 hcs0 hkz hk4
            gi_wp2
            go_roundw
            case rel => exact ⟨k, pre ++ [⟨kind, pos, text, n⟩], hkl, rfl, HLL.out, HFF.out, HR4.out, HE5.out, by simpa using hJ4, by omega⟩
            case measure => simp [RowKit.intOf]; omega
          · gi_wp2
            refine bodyPost_ret (results_none rfl _ _ _) rfl ?_
            exact ⟨⟨_, rfl⟩, .inr ⟨_, by have := came_mid (f := f) HLL.out; simpa using this, hJx4⟩⟩
  · have hll : l = [] ∧ f = some (4, p) := by
      rcases hL with h | ⟨p2, h, h1, h2⟩
      · exact absurd h.1 (badAt_not hbd)
      · rw [badAt_one hbd h]; exact ⟨h1, h2⟩
    have hE0 : evEl er (.bad 4 p b) W1 := hblk
    have hJ1 := abides_below hd h0 hB1
    obtain ⟨fn, tmps, assign, body, hy, hRo⟩ := hY [] _ W1 hJ1 hE0 (by simp)
    dsimp only [evV, tkV] at hy
    simp only [show ((0 : Nat) : Int) = 0 from rfl] at hy
    have HC : Hid (Comes l f [.bad 4 p b]) := Lib.hid (by rw [hll.1, hll.2]; exact ⟨b, rfl⟩)
    clear hE0 hJ1 hll hblk hY hd h0 hL hbd
    gi_wp2
    refine hRo.mono ?_
    rintro e2 W4 (⟨rfl, hJ4, hk4⟩ | ⟨rfl, hJx4⟩)
    · gi_wp2
      refine bodyPost_ret (results_none rfl _ _ _) rfl ?_
      exact ⟨⟨_, rfl⟩, .inl ⟨_, HC.out, hJ4⟩⟩
    · gi_wp2
      refine bodyPost_ret (results_none rfl _ _ _) rfl ?_
      exact ⟨⟨_, rfl⟩, .inr ⟨_, ⟨_, HC.out, List.prefix_refl _⟩, hJx4⟩⟩

/-- The tokens, or the error, come one by one. -/
theorem tokens_el (q : Nat) (hq : 1 ≤ q) (bS : Nat) (s : ByteArray) (hs : s.size ≤ 4096) (er : Nat → Addr) (l : List Tk) (f : Option (Nat × Nat)) (hL : LexIs s l f) (w : World) (hSl : bS < w.heap.size) (hS : w.cell? ⟨bS, 0, none⟩ = some (.string s)) (hE : Lerr w er) :
    SeqEl Fence.wide q Tryd.prog 51 #[.pointer (some ⟨bS, 0, none⟩)] evV KeepTok (evEl er) (Comes l f) (Came l f) (l.length + 1) w :=
  fun lp J Jx W hW hJ _ hY hJ0 => tokens1_in q hq lp bS s hs er l f hL J Jx hY W ((hW.cell (p := ⟨bS, 0, none⟩) hSl).trans hS) (hE.below hW) hJ0 hJ
end Go.Proofs.YtndagbmcdpafjaaDoor
