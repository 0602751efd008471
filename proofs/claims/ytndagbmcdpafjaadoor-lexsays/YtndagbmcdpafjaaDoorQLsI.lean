/-
  The iterator that Tokens hands back, once more: each round is told that what has come is a beginning of what comes; a region that draws within a round. Conditions: each theorem's own premises.
-/
import Derived.Test.YtndagbmcdpafjaaDoorQLxI
import Derived.OrdersHeld
import Derived.OrdersIn
namespace Go.Proofs.YtndagbmcdpafjaaDoor
open Go.Shelf Go.RowKit Go.Lib
attribute [local go_sem] Oper.semAt_some

section
variable {P : Program} {ops : Array Oper} {Q : Exit → Act → World → Prop} {l n : Nat}
theorem rows_round {row : String} {args : Array Value} {w : World} {R : Value → World → Prop} (h : Rows P row args w R) : RowsIn (Fence.wide.inRound l) n P row args w R :=
  fun c cs _ => let ⟨v, w', r, s⟩ := h c cs; ⟨v, w', r, stepsIn_wide.2 s⟩
theorem wpOp_round {i : Nat} {K : Act → World → Prop} {a : Act} {w : World} (hnd : ∀ o, ops[i]? = some o → ∀ c, o.op ≠ .defer c) (hno : ¬ LetsOut Q) (h : wpOp P ops Q i K a w) : wpOpIn (Fence.wide.inRound l) n P ops Q i K a w := by
  unfold wpOp at h
  unfold wpOpIn
  split
  · rename_i hi
    simpa [hi] using h
  · rename_i o ho
    simp only [ho] at h
    split
    · rename_i hw
      simp only [hw, if_true] at h
      rcases h with h | ⟨_, hl⟩
      · refine ⟨fun _ _ => trivial, ?_⟩
        rw [Oper.semAt_eq _ _ _ (hnd o ho)]
        unfold Oper.wp at h
        generalize (execOp a.eval o).run P w = r at *
        cases r with
        | ok x w' =>
          cases x with
          | value v => exact h
          | skip => exact h
          | defer d => exact h
          | enter f args => exact ⟨fun hx => by simp [Fence.wide] at hx, callsIn_wide.2 h⟩
          | row r args => exact ⟨fun hx => by simp [Fence.wide] at hx, rows_round h⟩
          | _ => exact h.elim
        | halt x w' => cases x <;> first | exact h | exact h.elim
      · exact absurd hl hno
    · rename_i hw
      simp only [hw] at h
      exact ⟨fun _ _ => trivial, h⟩
theorem wpAny_round {md : Region.Mode} (hnd : ∀ (i : Nat) (o : Oper), ops[i]? = some o → ∀ c, o.op ≠ .defer c) (hno : ¬ LetsOut Q) : ∀ (fuel : Nat) (listed : Array Bool) (a : Act) (w : World), wpAny P md ops Q fuel listed a w → wpAnyIn (Fence.wide.inRound l) n P md ops Q fuel listed a w
  | 0, _, _, _, h => h
  | fuel + 1, _, _, _, h => ⟨h.1, fun i hi => wpOpIn_mono (fun a' w' h' => wpAny_round hnd hno fuel _ a' w' h') (wpOp_round (hnd i) hno (h.2 i hi))⟩
/-- Is none of them a 'defer'? -/
def noDefer (ops : List Oper) : Bool := ops.all fun o => match o.op with | .defer _ => false | _ => true
theorem noDefer_spec {ol : List Oper} (h : noDefer ol = true) : ∀ (i : Nat) (o : Oper), ol.toArray[i]? = some o → ∀ c, o.op ≠ .defer c := fun i o ho c e => by
  have hm : ol[i]? = some o := by simpa using ho
  have := List.all_eq_true.1 h o (List.mem_of_getElem? hm)
  rw [e] at this
  cases this
theorem region_round {id : Nat} {a : Act} {w : World} {S : World → Prop} {ol : List Oper} (hm : P.follows .mixedOrders = true) (hnd : noDefer ol = true) (hno : ¬ LetsOut Q)
    (h : wpAnyH P .any ol.toArray Q S ol.length (Array.replicate ol.length false) a w.drew) : (Code.region id ol.toArray true).wpIn (Fence.wide.inRound l) n P Q a w :=
  wpIn_region_any hm (wpAny_round (noDefer_spec hnd) hno _ _ _ _ (wpAny_of_held _ _ _ _ (by rw [List.size_toArray]; exact h)))
end

theorem wpOp_enter {P : Program} {ops : Array Oper} {Q : Exit → Act → World → Prop} {i : Nat} {K : Act → World → Prop} {a : Act} {w : World} {o : Oper} (hi : ops[i]? = some o) (hw : Region.wanted o (yielded ops a.tmps) = true) {f : FuncId} {args : Array Value} (he : (execOp a.eval o).run P w = .ok (.enter f args) w)
    (h : Calls P f args w fun e w'' => ∃ v, e = .returned v ∧ K (a.put o.dst v) w'') : wpOp P ops Q i K a w := by
  unfold wpOp
  simp only [hi, hw, if_true]
  refine .inl ?_
  unfold Oper.wp
  rw [he]
  refine Calls.mono h ?_
  rintro e w'' ⟨v, rfl, hK⟩
  exact hK


section
/-- The contract of an iterator: at each call of yield, what El says of the element holds of the memory. -/
def SeqE2 {α : Type} (F : Fence) (n : Nat) (P : Program) (g : Nat) (lb : Array Value) (encs : α → Array Value) (Kp : World → World → Prop) (El : α → World → Prop) (S Sp : List α → Prop) (N : Nat) (w : World) : Prop :=
  ∀ (l : Nat) (J Jx : List α → World → Prop) (W : World), Below w.heap.size w W → AbidesFrom W.heap.size J → AbidesFrom W.heap.size Jx →
    (∀ pre x W1, J pre W1 → El x W1 → Sp (pre ++ [x]) → pre.length < N → YieldAt F (n - 1) P l (encs x) W1 fun e W' =>
      (e = .returned (.bool true) ∧ J (pre ++ [x]) W' ∧ Kp W1 W') ∨ (e = .returned (.bool false) ∧ Jx (pre ++ [x]) W')) →
    J [] W →
    CallsIn F n P g (#[.func (.yield l) #[] #[]] ++ lb) W fun e W' => (∃ v, e = .returned v) ∧ ((∃ xs, S xs ∧ J xs W') ∨ (∃ pre, Sp pre ∧ Jx pre W'))

variable {F : Fence} {n : Nat} {P : Program}
theorem range_e2 {α : Type} {g : Operand} {ps : Array Tmp} {assign body : Code} {Q : Exit → Act → World → Prop} {a : Act} {w : World}
    (hro : F.round = none) (h1 : 1 ≤ n) {gf : Nat} {lb : Array Value} (hg : a.eval g = .func (.func gf) #[] lb) (hFg : F.fn gf) (eg : ∀ args w, (callFunc gf args).run P w = .ok (.enter gf args) w)
    {encs : α → Array Value} {Kp : World → World → Prop} {El : α → World → Prop} {S Sp : List α → Prop} {N : Nat} {w0 : World} (hseq : SeqE2 F (n - 1) P gf lb encs Kp El S Sp N w0)
    (hKt : ∀ {A B C : World}, Kp A B → Kp B C → Kp A C) (hKb : ∀ (W : World) (l : Nat) (o o' : Obj), w.heap.size ≤ l → W.heap[l]? = some o → o.isCells = false → o.isWalk = false → Kp W (W.putObj l o')) (hb0 : Below w0.heap.size w0 w) (hps : ∀ x, (encs x).size = ps.size)
    (I : List α → World → Prop) (Ix : Code → List α → World → Prop) (hI : OwnFrom w.heap.size I) (hIx : ∀ c, OwnFrom w.heap.size (Ix c)) (h0 : I [] w) (Ax : α → Act → World → Prop) (hAx : ∀ x a', OwnFrom w.heap.size (fun (_ : Unit) W => Ax x a' W))
    (hassign : ∀ (l : Nat) (pre : List α) (x : α) (W : World) (K : Act → World → Prop), I pre W → El x W → (∀ a' W', KeepsFrom w.heap.size W W' → Kp W W' → I pre W' → Ax x a' W' → K a' W') →
      assign.wpIn (F.inRound l) (n - 1 - 1) P (Exit.then K (fun _ _ _ => False)) { tmps := (ps.zip (encs x)).foldl (fun t (p, v) => t.setIfInBounds p v) a.tmps, defers := [] } W)
    (hbody : ∀ (l : Nat) (pre : List α) (x : α) (a' : Act) (W : World), w.heap.size ≤ l → (∃ r, W.heap[l]? = some (.loop r)) → I pre W → Ax x a' W → Sp (pre ++ [x]) → pre.length < N → body.wpIn (F.inRound l) (n - 1 - 1) P (ownPostG w.heap.size Kp I Ix (pre ++ [x]) W) a' W)
    (hdone : ∀ (D : Nat) (xs : List α) (W : World), w.heap.size ≤ D → S xs → I xs W → W.heap[D]? = some (.deferred (some [])) → Q .normal { a with defers := { target := .collected D, args := #[] } :: a.defers } W)
    (hstop : ∀ (D : Nat) (c : Code) (pre : List α) (W : World), w.heap.size ≤ D → Sp pre → Ix c pre W → W.heap[D]? = some (.deferred (some [])) → c.wpIn F n P Q { a with defers := { target := .collected D, args := #[] } :: a.defers } W) :
    (Code.rangeFunc g ps assign body).wpIn F n P Q a w := by
  refine wpIn_rangeFunc fun fn hfn => ?_
  rw [hro]
  obtain ⟨R, hR⟩ : ∃ R : LoopState → Option Code → Loop, R = fun st pe => { state := st, pending := pe, fn, tmps := a.tmps, params := ps, assign, body, defers := w.heap.size } := ⟨_, rfl⟩
  obtain ⟨W1, hW1⟩ : ∃ W1, W1 = (w.alloc (.deferred (some []))).alloc (.loop (R .ready none)) := ⟨_, rfl⟩
  have hz1 : W1.heap.size = w.heap.size + 2 := by rw [hW1]; simp
  have hr1 : Run2 w.heap.size (R .ready none) W1 := by
    rw [hW1]
    refine ⟨?_, (Below.heap_alloc _ _ _ (by simp)).trans (World.alloc_heap_new w _)⟩
    have := World.alloc_heap_new (w.alloc (.deferred (some []))) (.loop (R .ready none))
    rwa [World.size_alloc] at this
  have hB1 : Below w.heap.size w W1 := by rw [hW1]; exact ((Below.refl _ w).alloc (Nat.le_refl _) _).alloc (by simp) _
  have hI1 : I [] W1 := by rw [hW1]; exact hI.alloc _ (hI.alloc _ h0)
  have hen := run_enterLoop_outer (P := P) (w := w) fn a.tmps ps assign body
  refine ⟨w.heap.size + 1, [{ target := .collected w.heap.size, args := #[] }], W1, { target := .fn (.func gf) lb, args := #[.func (.yield (w.heap.size + 1)) #[] #[]] }, W1, gf, #[.func (.yield (w.heap.size + 1)) #[] #[]] ++ lb, W1, ?_, ?_, ?_, ?_, fun _ => h1, ?_⟩
  · rw [hW1, hR]; exact hen
  · simp only [resolve, hg]; simp [go_sem]
  · intro f' hf'; simp [Target.leads] at hf'; subst hf'; exact hFg
  · simp [invoke, go_sem, eg]
  clear hen
  have wlk : ∀ {A : World} {row : Option Nat}, (∀ k, row = some k → W1.heap.size ≤ k ∧ ∃ o : Obj, A.heap[k]? = some o ∧ o.isWalk = true) → (∀ k, row = some k → w.heap.size ≤ k ∧ ∃ o : Obj, A.heap[k]? = some o ∧ o.isCells = false) := fun hr k e => by
    obtain ⟨hk, o, ho, hw⟩ := hr k e
    exact ⟨by omega, o, ho, Obj.not_cells_of_walk hw⟩
  have turn : ∀ (X : World) (r r' : Loop), Run2 w.heap.size r X → Kp X (X.putObj (w.heap.size + 1) (.loop r')) := fun X r r' h => hKb _ _ _ _ (by omega) h.rec_ rfl rfl
  have hcall := hseq (w.heap.size + 1)
    (fun pre W => I pre W ∧ Run2 w.heap.size (R .ready none) W)
    (fun pre W => ∃ c, Ix c pre W ∧ Run2 w.heap.size (R .done (some c)) W)
    W1 (hb0.trans (hB1.mono hb0.size))
    (fun s A B row hs hg' hr => ⟨hI s A B row hs.1 hg' (wlk hr), hs.2.walks hg' hr⟩)
    (fun s A B row hs hg' hr => by
      obtain ⟨c, hc, hrun⟩ := hs
      exact ⟨c, hIx c s A B row hc hg' (wlk hr), hrun.walks hg' hr⟩)
    (fun pre x W hJ hel hsp hlen => by
      obtain ⟨hi, hrun⟩ := hJ
      have hy := run_yield (P := P) (args := encs x) hrun.rec_ (by rw [hR]; exact hps x)
      rw [hR] at hy
      refine ⟨fn, _, assign, body, hy, roundIn_of_wpIn hfn (hassign _ pre x W _ hi hel fun a' Wa hka hkp hia hax => ?_)⟩
      have hruna := hrun.keeps hka
      refine ⟨_, run_beginRound hruna.rec_ (by rw [hR]), ?_⟩
      have hrunb := hruna.turn { R .ready none with state := .busy }
      have hib := hI.putObj (.loop { R .ready none with state := .busy }) hia (l := w.heap.size + 1) (by omega) hruna.rec_ rfl
      have haxb := (hAx x a').putObj (s := ()) (.loop { R .ready none with state := .busy }) hax (l := w.heap.size + 1) (by omega) hruna.rec_ rfl
      refine wpIn_mono (hbody _ pre x a' _ (by omega) ⟨_, hrunb.rec_⟩ hib haxb hsp hlen) ?_
      have fin : ∀ (j : Option Code) (W3 : World), KeepsFrom w.heap.size (Wa.putObj (w.heap.size + 1) (.loop { R .ready none with state := .busy })) W3 →
          (Instr.endRound (w.heap.size + 1) j).run P W3 = .ok (.bool j.isNone) (W3.putObj (w.heap.size + 1) (.loop (R (if j.isNone then .ready else .done) j))) ∧ Run2 w.heap.size { R .ready none with state := .busy } W3 := fun j W3 hk3 => by
        have hr3 := hrunb.keeps hk3
        have := run_endRound (P := P) j hr3.rec_
        rw [hR] at this ⊢
        exact ⟨this, by rw [hR] at hr3; exact hr3⟩
      have out : ∀ (c : Code) (W3 : World), KeepsFrom w.heap.size (Wa.putObj (w.heap.size + 1) (.loop { R .ready none with state := .busy })) W3 → Ix c (pre ++ [x]) W3 →
          ∃ c', Ix c' (pre ++ [x]) (W3.putObj (w.heap.size + 1) (.loop (R .done (some c)))) ∧ Run2 w.heap.size (R .done (some c')) (W3.putObj (w.heap.size + 1) (.loop (R .done (some c)))) := fun c W3 hk3 hx3 => by
        have hr3 := (fin (some c) W3 hk3).2
        exact ⟨c, (hIx c).putObj _ hx3 (by omega) hr3.rec_ rfl, hr3.turn _⟩
      rintro e a3 W3 hp
      cases e with
      | normal =>
        obtain ⟨hk3, hkp3, hi3⟩ := hp
        obtain ⟨hrun3, hr3⟩ := fin none W3 hk3
        exact ⟨_, _, hrun3, .inl ⟨rfl, ⟨hI.putObj _ hi3 (by omega) hr3.rec_ rfl, hr3.turn _⟩, hKt hkp (hKt (hKt (turn _ _ _ hruna) hkp3) (turn _ _ _ hr3))⟩⟩
      | ret => exact ⟨_, _, (fin (some .ret) W3 hp.1).1, .inr ⟨rfl, out .ret W3 hp.1 hp.2⟩⟩
      | exit id => exact ⟨_, _, (fin (some (.exit id)) W3 hp.1).1, .inr ⟨rfl, out (.exit id) W3 hp.1 hp.2⟩⟩
      | goto t => exact ⟨_, _, (fin (some (.goto t)) W3 hp.1).1, .inr ⟨rfl, out (.goto t) W3 hp.1 hp.2⟩⟩
      | panic ch => exact hp.elim
      | outgrown => exact hp.elim)
    ⟨hI1, hr1⟩
  refine hcall.mono ?_
  have last : ∀ (W2 : World) (st : LoopState) (j : Option Code), st ≠ .busy → Run2 w.heap.size (R st j) W2 →
      (Instr.endLoop (w.heap.size + 1)).run P W2 = .ok j (W2.putObj (w.heap.size + 1) (.loop { R st j with state := .exhausted })) ∧ (W2.putObj (w.heap.size + 1) (.loop { R st j with state := .exhausted })).heap[w.heap.size]? = some (.deferred (some [])) := fun W2 st j hst hr => by
    have := run_endLoop (P := P) hr.rec_ (by rw [hR]; exact hst)
    exact ⟨by rw [hR] at this ⊢; exact this, (hr.turn _).dfr⟩
  rintro e W2 ⟨⟨v, rfl⟩, (⟨xs, hS, hi, hr⟩ | ⟨pre, hSp, c, hx, hr⟩)⟩
  · obtain ⟨k1, k2⟩ := last W2 .ready none (by simp) hr
    exact ⟨none, _, k1, hdone _ xs _ (Nat.le_refl _) hS (hI.putObj _ hi (by omega) hr.rec_ rfl) k2⟩
  · obtain ⟨k1, k2⟩ := last W2 .done (some c) (by simp) hr
    exact ⟨some c, _, k1, hstop _ c pre _ (Nat.le_refl _) hSp ((hIx c).putObj _ hx (by omega) hr.rec_ rfl) k2⟩
end

set_option maxRecDepth 100000 in
set_option maxHeartbeats 4000000 in
theorem tokens1_i2 (q : Nat) (hq : 1 ≤ q) (lp bS : Nat) (s : ByteArray) (hs : s.size ≤ 4096) (er : Nat → Addr) (l : List Tk) (f : Option (Nat × Nat)) (hL : LexIs s l f) (J Jx : List Ev → World → Prop)
    (hY : ∀ pre x W, J pre W → evEl er x W → Came l f (pre ++ [x]) → pre.length < l.length + 1 → YieldAt Fence.wide (q - 1) Tryd.prog lp (evV x) W fun e W' =>
      (e = .returned (.bool true) ∧ J (pre ++ [x]) W' ∧ KeepTok W W') ∨ (e = .returned (.bool false) ∧ Jx (pre ++ [x]) W'))
    (W : World) (hS : W.cell? ⟨bS, 0, none⟩ = some (.string s)) (hE : Lerr W er) (h0 : J [] W) (hd : AbidesFrom W.heap.size J) :
    CallsIn Fence.wide q Tryd.prog 51 #[.func (.yield lp) #[] #[], .pointer (some ⟨bS, 0, none⟩)] W fun e W' => (∃ v, e = .returned v) ∧ ((∃ ys, Comes l f ys ∧ J ys W') ∨ (∃ pre, Came l f pre ∧ Jx pre W')) := by
  refine callsIn_of_wp Tryd.func51 rfl trivial ?_ rfl
  simp only [Tryd.ntmps51, List.size_toArray, List.length_cons, List.length_nil, Nat.reduceAdd, Nat.reduceSub, Array.replicate_succ, Array.replicate_zero, List.push_toArray, List.append_toArray, List.nil_append, List.cons_append]
  have HV := Lib.hid (valid_any s W (er 4) hs hE.rune)
  gi_wp2_with fail
  refine ⟨trivial, callsIn_wide.2 (HV.out.mono ?_)⟩
  rintro e W1 ⟨hB1, ⟨hn, rfl⟩ | ⟨p, b, hbd, rfl, hblk⟩⟩
  · obtain ⟨C, W2, hcv, hC, hB2, hR2, hz2⟩ := conv_runes s hs W1
    obtain ⟨hok, hen⟩ := noBad.rns hn
    have hrl : (rns s.data.toList).length ≤ 4096 := by
      have := pcs_len s.data.toList
      unfold rns
      simp at this ⊢
      omega
    have hlx : (l, f) = lx (rns s.data.toList) 0 := by
      rcases hL with h | ⟨p, h, _⟩
      · exact h.2
      · exact absurd hn (badAt_not h)
    obtain ⟨R, hR⟩ : ∃ R, R = rns s.data.toList := ⟨_, rfl⟩
    rw [← hR] at hcv hC hR2 hok hrl hlx
    obtain ⟨len, hlen⟩ : ∃ len, len = R.length := ⟨_, rfl⟩
    rw [← hlen] at hcv hC hrl
    have hJ2 : J [] W2 := abides_below hd (abides_below hd h0 hB1) hB2
    have hE2 : Lerr W2 er := (hE.below hB1).below hB2
    have HJ2 := Lib.hid hJ2
    have HE2 := Lib.hid hE2
    have HR2 := Lib.hid hR2
    have HLx := Lib.hid hlx
    have HLen := Lib.hid hlen
    have HOk := Lib.hid hok
    have HY := Lib.hid hY
    have HD := Lib.hid hd
    have hS1 : W1.cell? ⟨bS, 0, none⟩ = some (.string s) := (hB1.cell (p := ⟨bS, 0, none⟩) (World.block_lt_of_cell? W _ hS)).trans hS
    have hW2 : W.heap.size ≤ W2.heap.size := by have := hB1.size; have := hB2.size; omega
    obtain ⟨g, hg⟩ : ∃ g, g = W1.heap.size := ⟨_, rfl⟩
    rw [← hg] at hcv HR2
    clear hJ2 hE2 hR2 hlx hlen hok hY hd h0 hL hen hR hn hB2 hg hz2 HV hE
    gi_wp2
    gi_loopw [5] (fun x wr => ∃ (p : Nat) (pre : List Tk), p ≤ len ∧ x = .int .i64 (p : Int) ∧ l = pre ++ (lx R p).1 ∧ f = (lx R p).2 ∧ Rns wr g R ∧ Lerr wr er ∧ J (pre.map .tok) wr ∧ W.heap.size ≤ wr.heap.size)
      (fun x _ => len - (RowKit.intOf x).toNat)
    case atStart => exact ⟨0, [], Nat.zero_le _, rfl, congrArg Prod.fst HLx.out, congrArg Prod.snd HLx.out, HR2.out, HE2.out, HJ2.out, hW2⟩
    case round =>
      obtain ⟨p, pre, hp, rfl, hl1, hf1, hRw, hEw, hJw, hWw⟩ := hrel
      have HRd := Lib.hid (read_any g C R len p er wr HLen.out hp (by omega) hC hRw HOk.out hEw)
      have HRw := Lib.hid hRw
      have HEw := Lib.hid hEw
      have HJw := Lib.hid hJw
      have HL1 := Lib.hid hl1
      have HF1 := Lib.hid hf1
      clear hRw hEw hJw hl1 hf1
      cases hr : rd R p with
      | bad c qp =>
        rw [hr] at HRd
        have HB := Lib.hid (lx_bad hr)
        clear hr
        gi_wp2_with fail
        refine ⟨trivial, callsIn_wide.2 (HRd.out.mono ?_)⟩
        rintro e W3 ⟨hB3, b, hb3, rfl, hblk⟩
        dsimp only [tkV]
        simp only [show ((0 : Nat) : Int) = 0 from rfl]
        have hE0 : evEl er (.bad c qp b) (W3.alloc (.cells #[.int .i64 0, .int .i64 0, .string { data := #[] }, .int .i64 0] 37)) := hblk.alloc _
        have hJ0 : J (pre.map .tok) (W3.alloc (.cells #[.int .i64 0, .int .i64 0, .string { data := #[] }, .int .i64 0] 37)) := abides_below HD.out (abides_below HD.out HJw.out hB3) ((Below.refl _ _).alloc (Nat.le_refl _) _)
        have hcm : Came l f (pre.map Ev.tok ++ [.bad c qp b]) := by
          have h1 : l = pre := by rw [HL1.out, HB.out, List.append_nil]
          have h2 : f = some (c, qp) := by rw [HF1.out, HB.out]
          rw [h1, h2]
          exact ⟨_, ⟨b, rfl⟩, List.prefix_refl _⟩
        obtain ⟨fn, tmps, assign, body, hy, hRo⟩ := HY.out _ _ _ hJ0 hE0 hcm (by rw [HL1.out, List.length_map, List.length_append]; omega)
        dsimp only [evV, tkV] at hy
        simp only [show ((0 : Nat) : Int) = 0 from rfl] at hy
        have hll : l = pre := by rw [HL1.out, HB.out, List.append_nil]
        have hff : f = some (c, qp) := by rw [HF1.out, HB.out]
        have HC : Hid (Comes l f (pre.map .tok ++ [.bad c qp b])) := Lib.hid (by subst hll hff; exact ⟨b, rfl⟩)
        clear hE0 hJ0 hll hff hblk hB3 hb3
        gi_wp2
        refine hRo.mono ?_
        rintro e2 W4 (⟨rfl, hJ4, hk4⟩ | ⟨rfl, hJx4⟩)
        · gi_wp2
          refine bodyPost_ret (results_none rfl _ _ _) rfl ?_
          exact ⟨⟨_, rfl⟩, .inl ⟨_, HC.out, hJ4⟩⟩
        · gi_wp2
          refine bodyPost_ret (results_none rfl _ _ _) rfl ?_
          exact ⟨⟨_, rfl⟩, .inr ⟨_, ⟨_, HC.out, List.prefix_refl _⟩, hJx4⟩⟩
      | tok t k =>
        rw [hr] at HRd
        have HSt := Lib.hid (rd_step HOk.out (by have := HLen.out; omega) hr)
        have HEn := Lib.hid (lx_end (R := R) (i := p) hr)
        have HMo := Lib.hid (lx_more HOk.out (by have := HLen.out; omega) hr)
        clear hr
        obtain ⟨kind, pos, text, n⟩ := t
        gi_wp2_with fail
        refine ⟨trivial, callsIn_wide.2 (HRd.out.mono ?_)⟩
        rintro e W3 ⟨hB3, rfl⟩
        dsimp only [tkV]
        have hE0 : evEl er (.tok ⟨kind, pos, text, n⟩) (W3.alloc (.cells #[.int .i64 (kind : Int), .int .i64 (pos : Int), .string ⟨text.toArray⟩, .int .i64 (n : Int)] 37)) := trivial
        have hB4 : Below W3.heap.size W3 (W3.alloc (.cells #[.int .i64 (kind : Int), .int .i64 (pos : Int), .string ⟨text.toArray⟩, .int .i64 (n : Int)] 37)) := (Below.refl _ _).alloc (Nat.le_refl _) _
        have hJ0 := abides_below HD.out (abides_below HD.out HJw.out hB3) hB4
        have hR0 := (HRw.out.below hB3 HRw.out.lt).below hB4 (by have := HRw.out.lt; have := hB3.size; omega)
        have hE4 := (HEw.out.below hB3).below hB4
        have hT0 : Blk (W3.alloc (.cells #[.int .i64 (kind : Int), .int .i64 (pos : Int), .string ⟨text.toArray⟩, .int .i64 (n : Int)] 37)) W3.heap.size _ _ := heap_alloc_new W3 _
        have hcm : Came l f (pre.map Ev.tok ++ [.tok ⟨kind, pos, text, n⟩]) := by
          obtain ⟨l2, h2⟩ : ∃ l2, l = (pre ++ [⟨kind, pos, text, n⟩]) ++ l2 := by
            by_cases hk0 : kind = 0
            · exact ⟨[], by rw [HL1.out, HEn.out hk0, List.append_nil]⟩
            · exact ⟨_, by rw [HL1.out, HMo.out hk0, List.append_assoc]; rfl⟩
          have := came_mid (f := f) h2
          simpa using this
        have hlt : (pre.map Ev.tok).length < l.length + 1 := by rw [HL1.out, List.length_map, List.length_append]; omega
        obtain ⟨fn, tmps, assign, body, hy, hRo⟩ := HY.out _ _ _ hJ0 hE0 hcm hlt
        dsimp only [evV, tkV] at hy
        have HR0 := Lib.hid hR0
        have HE4 := Lib.hid hE4
        have HT0 := Lib.hid hT0
        have hsz3 := hB3.size
        clear hE0 hJ0 hR0 hE4 hT0 hB4 hB3 hlt
        by_cases hk0 : kind = 0
        · subst hk0
          simp only [show ((0 : Nat) : Int) = 0 from rfl] at hy hRo HT0
          have hll : l = pre ++ [⟨0, pos, text, n⟩] := by rw [HL1.out, HEn.out rfl]
          have hff : f = none := by rw [HF1.out, HEn.out rfl]
          have HC : Hid (Comes l f (pre.map .tok ++ [.tok ⟨0, pos, text, n⟩])) := Lib.hid (by rw [hll, hff]; show _ = _; simp)
          clear hll hff
          gi_wp2
          refine hRo.mono ?_
          rintro e2 W4 (⟨rfl, hJ4, hk4⟩ | ⟨rfl, hJx4⟩)
          · obtain ⟨cs4, hcs4, hcs0⟩ := hk4.toks _ _ HT0.out
            have hc0 : W4.cell? ⟨W3.heap.size, 0, none⟩ = some (.int .i64 0) := by
              have : Blk W4 W3.heap.size 37 cs4 := hcs4
              rw [this.cell 0, hcs0]
              rfl
            clear hcs4 hcs0
            gi_wp2
            refine bodyPost_ret (results_none rfl _ _ _) rfl ?_
            exact ⟨⟨_, rfl⟩, .inl ⟨_, HC.out, hJ4⟩⟩
          · gi_wp2
            refine bodyPost_ret (results_none rfl _ _ _) rfl ?_
            exact ⟨⟨_, rfl⟩, .inr ⟨_, ⟨_, HC.out, List.prefix_refl _⟩, hJx4⟩⟩
        · have hki : ((kind : Int) == 0) = false := beq_eq_false_iff_ne.2 (by omega)
          have hst : p < k ∧ k ≤ len := by
            rcases HSt.out with ⟨h, _⟩ | ⟨_, h1, h2⟩
            · exact absurd h hk0
            · exact ⟨h1, by rw [HLen.out]; exact h2⟩
          have hll : l = (pre ++ [⟨kind, pos, text, n⟩]) ++ (lx R k).1 := by rw [HL1.out, HMo.out hk0, List.append_assoc]; rfl
          have hff : f = (lx R k).2 := by rw [HF1.out, HMo.out hk0]
          have HLL := Lib.hid hll
          have HFF := Lib.hid hff
          obtain ⟨hpk, hkl⟩ := hst
          clear hll hff hk0
          gi_wp2
          refine hRo.mono ?_
          rintro e2 W4 (⟨rfl, hJ4, hk4⟩ | ⟨rfl, hJx4⟩)
          · obtain ⟨cs4, hcs4, hcs0⟩ := hk4.toks _ _ HT0.out
            have hc0 : W4.cell? ⟨W3.heap.size, 0, none⟩ = some (.int .i64 (kind : Int)) := by
              have : Blk W4 W3.heap.size 37 cs4 := hcs4
              rw [this.cell 0, hcs0]
              rfl
            obtain ⟨kz, hkz⟩ := HR0.out
            have HR4 : Hid (Rns W4 g R) := Lib.hid ⟨kz, hk4.runes _ _ hkz⟩
            have HE5 := Lib.hid (hk4.errs er HE4.out)
            have hsz4 : W3.heap.size < W4.heap.size := (Array.getElem?_eq_some_iff.1 hcs4).1
            clear hcs4 hcs0 hkz hk4
            gi_wp2
            go_roundw
            case rel => exact ⟨k, pre ++ [⟨kind, pos, text, n⟩], hkl, rfl, HLL.out, HFF.out, HR4.out, HE5.out, by simpa using hJ4, by omega⟩
            case measure => simp [RowKit.intOf]; omega
          · gi_wp2
            refine bodyPost_ret (results_none rfl _ _ _) rfl ?_
            exact ⟨⟨_, rfl⟩, .inr ⟨_, by have := came_mid (f := f) HLL.out; simpa using this, hJx4⟩⟩
  · have hll : l = [] ∧ f = some (4, p) := by
      rcases hL with h | ⟨p2, h, h1, h2⟩
      · exact absurd h.1 (badAt_not hbd)
      · rw [badAt_one hbd h]; exact ⟨h1, h2⟩
    have hE0 : evEl er (.bad 4 p b) W1 := hblk
    have hJ1 := abides_below hd h0 hB1
    obtain ⟨fn, tmps, assign, body, hy, hRo⟩ := hY [] _ W1 hJ1 hE0 ⟨_, (by rw [hll.1, hll.2]; exact ⟨b, rfl⟩), List.prefix_refl _⟩ (by simp)
    dsimp only [evV, tkV] at hy
    simp only [show ((0 : Nat) : Int) = 0 from rfl] at hy
    have HC : Hid (Comes l f [.bad 4 p b]) := Lib.hid (by rw [hll.1, hll.2]; exact ⟨b, rfl⟩)
    clear hE0 hJ1 hll hblk hY hd h0 hL hbd
    gi_wp2
    refine hRo.mono ?_
    rintro e2 W4 (⟨rfl, hJ4, hk4⟩ | ⟨rfl, hJx4⟩)
    · gi_wp2
      refine bodyPost_ret (results_none rfl _ _ _) rfl ?_
      exact ⟨⟨_, rfl⟩, .inl ⟨_, HC.out, hJ4⟩⟩
    · gi_wp2
      refine bodyPost_ret (results_none rfl _ _ _) rfl ?_
      exact ⟨⟨_, rfl⟩, .inr ⟨_, ⟨_, HC.out, List.prefix_refl _⟩, hJx4⟩⟩

/-- The tokens, or the error, come one by one. -/
theorem tokens_e2 (q : Nat) (hq : 1 ≤ q) (bS : Nat) (s : ByteArray) (hs : s.size ≤ 4096) (er : Nat → Addr) (l : List Tk) (f : Option (Nat × Nat)) (hL : LexIs s l f) (w : World) (hSl : bS < w.heap.size) (hS : w.cell? ⟨bS, 0, none⟩ = some (.string s)) (hE : Lerr w er) :
    SeqE2 Fence.wide q Tryd.prog 51 #[.pointer (some ⟨bS, 0, none⟩)] evV KeepTok (evEl er) (Comes l f) (Came l f) (l.length + 1) w :=
  fun lp J Jx W hW hJ _ hY hJ0 => tokens1_i2 q hq lp bS s hs er l f hL J Jx hY W ((hW.cell (p := ⟨bS, 0, none⟩) hSl).trans hS) (hE.below hW) hJ0 hJ
end Go.Proofs.YtndagbmcdpafjaaDoor
