/-
  What the statements' loops lean on: records apart from a store, bytes filled one by one, how much room records take. Conditions: each theorem's own premises.
-/
import Derived.Test.YtmpklljiddggpaaDoorQJpL
import Derived.Test.YtmpklljiddggpaaDoorQJpJ
namespace Go.Proofs.YtmpklljiddggpaaDoor
open Go.Shelf Go.RowKit Go.Lib Go.Sort
attribute [local go_sem] Oper.semAt_some

/-- Records of the statements lie apart from a store and its disk. -/
theorem Jr.apart {w : World} {base g f m sb b2 : Nat} {v v2 : Value} {t : St} {l : List Chg} (J : Jr w base g f m sb v t) (h : Ow LC w b2 v2 l) : ∀ k, v2.ownBlock = some k → k ∉ [g, f, m, sb] := by
  intro k hk
  rcases h.form with ⟨rfl, _⟩ | ⟨k', cap, cs, rfl, _, hb, _⟩
  · cases hk
  · cases hk
    have hb : Blk w k' 45 cs := hb
    simp only [List.mem_cons, List.not_mem_nil, not_or, or_false]
    refine ⟨?_, ?_, ?_, ?_⟩
    · rintro rfl
      obtain ⟨c, h1, _⟩ := J.dk.head
      have := hb.symm.trans h1
      cases this
    · rintro rfl
      obtain ⟨c, h1, _⟩ := J.dk.row
      have := hb.symm.trans h1
      cases this
    · rintro rfl
      obtain ⟨es, clock, h1, _⟩ := J.dk.map
      have := hb.symm.trans h1
      cases this
    · rintro rfl
      have := hb.symm.trans J.st
      cases this
/-- What a call on a store leaves of such records. -/
theorem Ow.past {w w' : World} {base g f m sb b2 : Nat} {v v2 : Value} {t : St} {l : List Chg} (h : Ow LC w b2 v2 l) (J : Jr w base g f m sb v t) (hf : Fr [g, f, m, sb] w w') : Ow LC w' b2 v2 l := h.fr hf (J.apart h)

/-! ### bytes, filled one by one -/
def filC (n k : Nat) (u : UInt8) : Array Value := (List.replicate k (byt u) ++ List.replicate (n - k) (byt 0)).toArray
theorem fil_made (n : Nat) (u : UInt8) : madeCells #[.int .u8 0] n = filC n 0 u := by
  apply Array.ext_getElem?
  intro j
  rcases Nat.lt_or_ge j n with h | h
  · rw [made_cell _ _ _ h]
    have e1 : j % 1 = 0 := by omega
    show some (#[Value.int .u8 0][j % 1]!) = _
    rw [e1]
    simp [filC, h]
    rfl
  · rw [Array.getElem?_eq_none (by rw [size_madeCells]; simpa using h), Array.getElem?_eq_none (by simp [filC]; omega)]
theorem make_fil (n : Nat) (u : UInt8) (w : World) (h : n ≤ 100000) : (Instr.makeSlice 50 (.int .i64 (n : Int)) (.int .i64 (n : Int))).run Tryd.prog w = .ok (.slice (some ⟨w.heap.size, 0, none⟩) n n) (w.alloc (.cells (filC n 0 u) 5)) := by
  obtain ⟨i, hi, hz, hs, hb⟩ := info_parts Tryd.info8
  have := run_make (P := Tryd.prog) w 50 5 i _ Tryd.underlying50 hi hz .i64 .i64 (n : Int) (n : Int) (by omega) (by omega) (by rw [hb]; omega) (by omega)
  rw [this, hs]
  simp only [Int.toNat_natCast, Nat.mul_one]
  rw [← fil_made n u]
  rfl
theorem fil_set {n k : Nat} (u : UInt8) (h : k < n) : (filC n k u).setIfInBounds k (byt u) = filC n (k + 1) u := by
  unfold filC
  rw [List.setIfInBounds_toArray]
  congr 1
  rw [List.set_append_right _ _ (by simp), List.length_replicate, Nat.sub_self, show n - k = (n - (k + 1)) + 1 by omega, List.replicate_succ, List.set_cons_zero, List.replicate_succ', List.append_assoc]
  rfl
theorem fil_cell {n k : Nat} (u : UInt8) (h : k < n) : (filC n k u)[k]? = some (byt 0) := by
  unfold filC
  rw [List.getElem?_toArray, List.getElem?_append_right (by simp), List.length_replicate, Nat.sub_self, List.getElem?_replicate, if_pos (by omega)]
theorem fil_str {w : World} {gb n : Nat} {u : UInt8} (h : Blk w gb 5 (filC n n u)) : Str w w.heap.size (some ⟨gb, 0, none⟩) (List.replicate n u) := by
  refine ⟨fun _ => ⟨_, rfl, h.lt, fun j v hv => ?_⟩⟩
  rw [List.getElem?_replicate] at hv
  split at hv
  · rename_i hj
    cases hv
    rw [lit_add, h.cell]
    unfold filC
    rw [List.getElem?_toArray, List.getElem?_append_left (by simpa using hj), List.getElem?_replicate, if_pos hj]
    rfl
  · cases hv

/-! ### how much room records take -/
def sum48 : List Chg → Nat
  | [] => 0
  | c :: r => c.key.length + c.val.length + 48 + sum48 r
theorem sum48_append (a b : List Chg) : sum48 (a ++ b) = sum48 a + sum48 b := by
  induction a with
  | nil => simp [sum48]
  | cons c r ih => simp [sum48, ih]; omega
theorem sumC_le (l : List Chg) : sumC l ≤ sum48 l := by
  induction l with
  | nil => simp [sumC, sum48]
  | cons c r ih => simp [sumC, sum48]; omega
/-- Where there is no room, there is much to hold. -/
theorem room_full {n : Nat} {l : List Chg} (hok : ∀ c ∈ l, OkC c) (h : roomN n < secs l) : (n : Int) * 32 - 2048 < (sum48 l : Int) := by
  have h1 := encL_sum hok
  have h2 := sumC_le l
  unfold roomN secs at h
  omega
theorem aft_ok {n K : Nat} {t : St} (h : Ok n K t) {l : List Chg} (h1 : l.any badKey = false) (h2 : l.any badVal = false) : ∀ c ∈ aft (t.r ++ l), OkC c := by
  rw [← aft_eff h.inv.recs l]
  exact next_ok h.inv h1 h2
/-- What a Commit answers, where no key and no value is amiss and the records are few. -/
theorem room_says {n K : Nat} {t : St} (h : Ok n K t) {l : List Chg} (h1 : l.any badKey = false) (h2 : l.any badVal = false) (h3 : (aft (t.r ++ l)).length ≤ 256) : (comm t l).1 = .fine ∨ ((comm t l).1 = .full ∧ (n : Int) * 32 - 2048 < (sum48 (aft (t.r ++ l)) : Int)) := by
  rcases h.refused h1 h2 h3 with h4 | ⟨h4, h5⟩
  · exact .inl h4
  · exact .inr ⟨h4, room_full (aft_ok h h1 h2) h5⟩
theorem used_le {n K : Nat} {t : St} (h : Ok n K t) (hn : 3 ≤ n) : usedN t.h ≤ n ∧ t.h.used ≤ roomN n := by
  obtain ⟨L, hL, _⟩ := h.inv.has
  have := hL.used
  rw [h.len] at this
  refine ⟨?_, this⟩
  unfold usedN
  split
  · omega
  · unfold roomN at this
    omega
end Go.Proofs.YtmpklljiddggpaaDoor

/-
  The walk of JourRoom. Conditions: each theorem's own premises.
-/
namespace Go.Proofs.YtmpklljiddggpaaDoor
open Go.Shelf Go.RowKit Go.Lib Go.Sort
attribute [local go_sem] Oper.semAt_some

/-- Where JourRoom's loop stands. -/
def RoomI (w0 : World) (n i g f sb : Nat) (vh : Value) (wr : World) : Prop :=
  ∃ m v t K, Sto w0 wr n K g f m sb v t ∧ Ow LC wr w0.heap.size vh t.r ∧ K ≤ i * (n + 3) ∧ t.r.length ≤ i

theorem conv_one (w : World) (c : UInt8) : (convert 50 9 (.slice (some ⟨w.heap.size, 0, none⟩) 1 1)).run Tryd.prog (w.alloc (.cells #[.int .u8 (c.toNat : Int)] 5)) = .ok (.string ⟨#[c]⟩) (w.alloc (.cells #[.int .u8 (c.toNat : Int)] 5)) :=
  conv_str (A := some ⟨w.heap.size, 0, none⟩) (l := [c]) 1 _ ⟨fun _ => ⟨_, rfl, (by simp : w.heap.size < w.heap.size + 1), fun j u hu => by
    match j, hu with
    | 0, hu =>
      simp at hu
      subst hu
      rw [lit_add]
      exact Blk.cell (heap_alloc_new w _) 0⟩⟩

theorem ofNat_small' {n : Nat} (h : n < 256) : (UInt8.ofNat n).toNat = n := by simp; omega
set_option maxRecDepth 100000 in
set_option maxHeartbeats 4000000 in
theorem jroom_any (sectors : Int) (A : Option Addr) (c : Nat) (l : List Int) (w : World) (ads : List Addr) (hS : Sents w ads) (hI : Ints w w.heap.size A l) :
    Calls Tryd.prog 4 #[.int .i64 sectors, .slice A l.length c] w (RetYes w) := by
  have HE := Lib.hid (es_of hS)
  have He := Lib.hid (errs_of hS)
  have HS := Lib.hid hS
  have HI := Lib.hid hI
  have hch := chap_any w _ _ _ _ _ _ He.out HE.out
  clear hS hI
  go_enter Tryd.func4, Tryd.ntmps4
  go_wp2_with fail
  refine hch.mono ?_
  rintro e w1 ⟨rfl, hB1⟩
  have HB1 := Lib.hid hB1
  clear hch hB1
  have hnu := number_any sectors 600 w1 (by omega) (by omega)
  go_wp2_with fail
  refine hnu.mono ?_
  rintro e w2 ⟨rfl, rfl⟩
  have hq : 0 ≤ sectors % 600 ∧ sectors % 600 < 600 := ⟨Int.emod_nonneg _ (by omega), Int.emod_lt_of_pos _ (by omega)⟩
  clear hnu
  obtain ⟨n, hn⟩ : ∃ n : Nat, sectors % 600 + 100 = (n : Int) := ⟨(sectors % 600 + 100).toNat, by omega⟩
  have hn1 : 100 ≤ n ∧ n < 700 := by omega
  generalize sectors % 600 = q at *
  obtain rfl : q = (n : Int) - 100 := by omega
  clear hn hq
  by_cases h60 : 60 < l.length
  · have h60I : (60 : Int) < l.length := by omega
    go_wp2
    go_ret
    exact ⟨rfl, HB1.out⟩
  have h60I : ¬ (60 : Int) < l.length := by omega
  have hop := opened_any n w1 _ _ _ _ _ _ (by omega) (by omega) (He.out.below HB1.out (Nat.le_refl _)) (HE.out.fr ((Fr.refl [] w).belows HB1.out (Nat.le_refl _)) (by simp))
  go_wp2_with fail
  refine hop.mono ?_
  intro e w2 h2
  obtain ⟨g, f, m, sb, v, rfl, hSt⟩ := h2.sto HB1.out
  have HS0 : Hid (RoomI w n 0 g f sb (.slice none 0 0) w2) := Lib.hid ⟨m, v, newSt n, 0, hSt, Ow.nil _ _ _, Nat.zero_le _, Nat.le_refl _⟩
  clear h2 hop hSt HB1
  go_wp2
  go_loopg [9, 10, 11, 12, 13, 14, 15, 16, 17, 18, 19] l.length (fun kx s9 s10 _ _ _ _ _ _ _ _ _ wr => ∃ i : Nat, s10 = .int .i64 i ∧ i ≤ l.length ∧ l.length - i ≤ kx ∧ Hid (RoomI w n i g f sb s9 wr))
  case atStart => exact ⟨0, rfl, by omega, by omega, HS0⟩
  case round =>
    clear HS0
    obtain ⟨i, rfl, hin, hix, HR⟩ := hrel
    obtain ⟨m1, v1, t1, K1, hS1, hO1, hK1, hr1⟩ := HR.out
    have HS1 := Lib.hid hS1
    have HO1 := Lib.hid hO1
    have hKn : K1 < 1000000 := by
      have : i * (n + 3) ≤ 60 * 703 := Nat.mul_le_mul (by omega) (by omega)
      omega
    have HK1 := Lib.hid hK1
    clear HR hS1 hO1 hK1
    by_cases hlt : i < l.length
    · have hltI : (i : Int) < l.length := by omega
      obtain ⟨ad, rfl, hbl, p0⟩ := (HI.out.keep (w' := wr) fun p _ hp => HS1.out.un.cell hp).pick hlt
      generalize l[i] = z at p0
      have hnu := number_any z 6 wr (by omega) (by omega)
      have hq : 0 ≤ z % 6 ∧ z % 6 < 6 := ⟨Int.emod_nonneg _ (by omega), Int.emod_lt_of_pos _ (by omega)⟩
      obtain ⟨kb, hkb⟩ : ∃ kb : UInt8, 97 + z % 6 = (kb.toNat : Int) := ⟨UInt8.ofNat (97 + z % 6).toNat, by rw [ofNat_small' (by omega)]; omega⟩
      go_wp2_with fail
      refine hnu.mono ?_
      rintro e w4 ⟨rfl, rfl⟩
      clear hnu
      have hcv := conv_one wr kb
      rw [← hkb] at hcv
      have HKb := Lib.hid (show 97 ≤ kb.toNat ∧ kb.toNat < 103 by omega)
      generalize z % 6 = q6 at *
      clear hkb
      have hb5 : Below wr.heap.size wr (wr.alloc (.cells #[.int .u8 (97 + q6)] 5)) := (Below.refl _ wr).alloc (Nat.le_refl _) _
      have p5 := cell_below p0 hb5 (Nat.le_refl _)
      have HS5 := Lib.hid (HS1.out.below hb5)
      have HO5 := Lib.hid (HO1.out.below hb5 (Nat.le_refl _))
      clear hb5 HS1 HO1
      go_upto_region 16 with fail
      generalize wr.alloc (.cells #[.int .u8 (97 + q6)] 5) = W5 at *
      clear hcv p0 hq
      have hnu := number_any (wrap64 (z.tdiv 6)) 3000 W5 (by omega) (by omega)
      go_wp2_with fail
      refine hnu.mono ?_
      rintro e w6 ⟨rfl, rfl⟩
      have hq : 0 ≤ wrap64 (z.tdiv 6) % 3000 ∧ wrap64 (z.tdiv 6) % 3000 < 3000 := ⟨Int.emod_nonneg _ (by omega), Int.emod_lt_of_pos _ (by omega)⟩
      clear hnu p5
      obtain ⟨b, hb⟩ : ∃ b : Nat, wrap64 (z.tdiv 6) % 3000 = (b : Int) := ⟨(wrap64 (z.tdiv 6) % 3000).toNat, by omega⟩
      rw [hb] at hq ⊢
      clear hb
      have hb3 : b < 3000 := by omega
      clear hq
      obtain ⟨u, hu⟩ : ∃ u : UInt8, (u.toNat : Int) = (i : Int) := ⟨UInt8.ofNat i, by rw [ofNat_small' (by omega)]⟩
      have HU : Hid (byt u = .int .u8 (i : Int)) := Lib.hid (by unfold byt; rw [hu])
      clear hu
      have hmk := fun W => make_fil b u W (by omega)
      have hB6 : Below W5.heap.size W5 (W5.alloc (.cells (filC b 0 u) 5)) := (Below.refl _ W5).alloc (Nat.le_refl _) _
      have hF6 : Blk (W5.alloc (.cells (filC b 0 u) 5)) W5.heap.size 5 (filC b 0 u) := heap_alloc_new W5 _
      go_upto_region 18 with fail
      clear hmk
      generalize W5.alloc (.cells (filC b 0 u) 5) = W6 at *
      have HB6 := Lib.hid hB6
      have HF6 := Lib.hid hF6
      clear hB6 hF6
      go_loopg [13] b (fun ky s13 wq => ∃ k : Nat, s13 = .int .i64 k ∧ k ≤ b ∧ b - k ≤ ky ∧ Hid (Blk wq W5.heap.size 5 (filC b k u)) ∧ Hid (Below W5.heap.size W5 wq))
      case atStart => exact ⟨0, rfl, by omega, by omega, HF6, HB6⟩
      case round =>
        clear HF6 HB6
        obtain ⟨k, rfl, hkb, hky, HF, HB⟩ := hrel
        by_cases hk : k < b
        · have hkI : (k : Int) < b := by omega
          have hc : wr.cell? ⟨W5.heap.size, k, none⟩ = some (byt 0) := (HF.out.cell k).trans (fil_cell u hk)
          have hfz := HF.out.free k
          have hlt5 := HF.out.lt
          have HF2 : Hid (Blk (wr.setCell ⟨W5.heap.size, k, none⟩ (.int .u8 (i : Int))) W5.heap.size 5 (filC b (k + 1) u)) := Lib.hid (by rw [← HU.out, ← fil_set u hk]; exact HF.out.set k (byt u))
          have HB2 : Hid (Below W5.heap.size W5 (wr.setCell ⟨W5.heap.size, k, none⟩ (.int .u8 (i : Int)))) := Lib.hid (HB.out.setCell (Nat.le_refl _) _)
          clear HF HB
          go_wp2
          go_roundg (b - (k + 1))
          case measure => omega
          case rel => exact ⟨k + 1, by go_num, by omega, Nat.le_refl _, HF2, HB2⟩
        · have hkI : ¬ (k : Int) < b := by omega
          obtain rfl : k = b := by omega
          obtain ⟨val, hval, hvl⟩ : ∃ val : List UInt8, val = List.replicate k u ∧ val.length = k := ⟨_, rfl, by simp⟩
          have hst := fil_str HF.out
          rw [← hval] at hst
          have hcv := conv_str k wr hst
          rw [hvl] at hcv
          have HS6 := Lib.hid (HS5.out.below HB.out)
          have HO6 := Lib.hid (HO5.out.below HB.out (Nat.le_refl _))
          have HVl := Lib.hid hvl
          clear hst hval hvl HF HB HS5 HO5 HU
          go_upto_region 22 with fail
          clear hcv
          have h7b : Blk (wr.alloc (.cells #[.string ⟨#[kb]⟩, .string ⟨val.toArray⟩, .bool false] 52)) wr.heap.size 52 #[.string ⟨#[kb]⟩, .string ⟨val.toArray⟩, .bool false] := heap_alloc_new wr _
          have h7B : Below wr.heap.size wr (wr.alloc (.cells #[.string ⟨#[kb]⟩, .string ⟨val.toArray⟩, .bool false] 52)) := (Below.refl _ wr).alloc (Nat.le_refl _) _
          generalize wr.alloc (.cells #[.string ⟨#[kb]⟩, .string ⟨val.toArray⟩, .bool false] 52) = W7 at *
          have HS7 := Lib.hid (HS6.out.below h7B)
          have HO7 := Lib.hid (HO6.out.below h7B (Nat.le_refl _))
          have H7 := Lib.hid h7b
          have b0 : W7.cell? ⟨wr.heap.size, 0, none⟩ = some (.string ⟨#[kb]⟩) := h7b.cell 0
          have b1 : W7.cell? ⟨wr.heap.size, 1, none⟩ = some (.string ⟨val.toArray⟩) := h7b.cell 1
          have b2 : W7.cell? ⟨wr.heap.size, 2, none⟩ = some (.bool false) := h7b.cell 2
          clear h7b h7B HS6 HO6
          generalize wr.heap.size = g7 at *
          have h8B : Below W7.heap.size W7 (W7.alloc (.cells #[.string ⟨#[kb]⟩, .string ⟨val.toArray⟩, .bool false] 52)) := (Below.refl _ W7).alloc (Nat.le_refl _) _
          have h8q : Chs (W7.alloc (.cells #[.string ⟨#[kb]⟩, .string ⟨val.toArray⟩, .bool false] 52)) (W7.alloc (.cells #[.string ⟨#[kb]⟩, .string ⟨val.toArray⟩, .bool false] 52)).heap.size (some ⟨W7.heap.size, 0, none⟩) [⟨[kb], val, false⟩] := chs_built W7 [⟨[kb], val, false⟩]
          have haf := after_rec w.heap.size u9 t1.r (some ⟨W7.heap.size, 0, none⟩) 1 [⟨[kb], val, false⟩] _ (HO7.out.below h8B (Nat.le_refl _)) HS7.out.ok.inv.recs h8q (by simp) (by omega) (Nat.le_trans HS7.out.un.size h8B.size)
          rw [show ([⟨[kb], val, false⟩] : List Chg).length = 1 from rfl] at haf
          have hbk : ([⟨[kb], val, false⟩] : List Chg).any badKey = false := by simp [badKey]
          have hbv : ([⟨[kb], val, false⟩] : List Chg).any badVal = false := by have := HVl.out; simp [badVal]; omega
          have hal := aft_length (t1.r ++ [⟨[kb], val, false⟩])
          rw [List.length_append, List.length_singleton] at hal
          have hra : aftR t1.r [⟨[kb], val, false⟩] = aft (t1.r ++ [⟨[kb], val, false⟩]) := by unfold aftR; rw [hbk, hbv, if_neg (by simp), if_neg (by simp), if_neg (by omega)]
          rw [hra] at haf
          have hsay := room_says HS7.out.ok hbk hbv (by omega)
          have hstep := HS7.out.ok.step (by omega) [⟨[kb], val, false⟩]
          have HOk := Lib.hid (aft_ok HS7.out.ok hbk hbv)
          have HSay := Lib.hid hsay
          have HStep := Lib.hid hstep
          have H8B := Lib.hid h8B
          generalize hnx : aft (t1.r ++ [⟨[kb], val, false⟩]) = nx at *
          have HNx := Lib.hid hnx
          generalize aftN t1.r [⟨[kb], val, false⟩] = an at haf
          clear hnx hra hbk hbv h8q h8B hsay hstep
          go_wp2_with fail
          refine haf.mono ?_
          rintro e w9 ⟨v9, rfl, hO9, hB9⟩
          have hB79 := H8B.out.trans (hB9.mono H8B.out.size)
          have HS9 := Lib.hid (HS7.out.below hB79)
          have HOh := Lib.hid (HO7.out.below hB79 (Nat.le_refl _))
          have H9 := Lib.hid (H7.out.below hB79 H7.out.lt)
          obtain ⟨A9, c9, rfl, hR9, -⟩ := hO9.rw
          have HO9 := Lib.hid hO9
          have HR9 := Lib.hid hR9
          clear haf hO9 hR9 hB9 hB79 HS7 HO7 H7 H8B b0 b1 b2
          go_wp2
          go_loopg [17, 18] nx.length (fun ky s17 s18 wq => ∃ k z : Nat, s17 = .int .i64 z ∧ s18 = .int .i64 k ∧ k ≤ nx.length ∧ nx.length - k ≤ ky ∧ z ≤ k * 32856 ∧ Hid (z = sum48 (nx.take k)) ∧ Hid (Below w9.heap.size w9 wq))
          case atStart => exact ⟨0, 0, rfl, rfl, by omega, by omega, by omega, Lib.hid (by simp [sum48]), Lib.hid (Below.refl _ _)⟩
          case round =>
            obtain ⟨k, zz, rfl, rfl, hkn, hky, hzk, HZ, HB⟩ := hrel
            by_cases hk : k < nx.length
            · have hkI : (k : Int) < nx.length := by omega
              have hox := HOk.out nx[k] (List.getElem_mem hk)
              obtain ⟨ad9, rfl, _, r9⟩ := (HR9.out.below HB.out).pick hk
              have q0 : wr.cell? (ad9.add (k * 2)) = some (.string ⟨nx[k].key.toArray⟩) := r9 0 _ rfl
              have q1 : wr.cell? ⟨(ad9.add (k * 2)).block, (ad9.add (k * 2)).off + 1, none⟩ = some (.string ⟨nx[k].val.toArray⟩) := by rw [add_one' ad9 (k * 2) 0]; exact r9 1 _ rfl
              have HSm := Lib.hid (show sum48 (nx.take (k + 1)) = sum48 (nx.take k) + (nx[k].key.length + nx[k].val.length + 48) by rw [List.take_succ_eq_append_getElem hk, sum48_append]; simp [sum48])
              have hx1 := hox.k2
              have hx2 := hox.v
              generalize nx[k] = x at *
              clear r9 hox
              go_wp2_with fail
              go_quiet (fail)
              have HB4 : Hid (Below w9.heap.size w9 (wr.drewN nq)) := Lib.hid (HB.out.trans ((bl_drew wr nq).mono HB.out.size))
              clear HB q0 q1
              generalize wr.drewN nq = W4 at *
              go_wp2
              go_roundg (nx.length - (k + 1))
              case measure => omega
              case rel => exact ⟨k + 1, zz + (x.key.length + x.val.length + 48), by go_num, by go_num, by omega, Nat.le_refl _, by omega, Lib.hid (by rw [HSm.out, HZ.out]), HB4⟩
            · have hkI : ¬ (k : Int) < nx.length := by omega
              have HZ2 := Lib.hid (show zz = sum48 nx by have := HZ.out; rwa [List.take_of_length_le (by omega)] at this)
              have HS10 := Lib.hid (HS9.out.below HB.out)
              have HOh10 := Lib.hid (HOh.out.below HB.out (Nat.le_refl _))
              have HO10 := Lib.hid (HO9.out.below HB.out (Nat.le_refl _))
              have h10 := H9.out.below HB.out H9.out.lt
              have b0 : wr.cell? ⟨g7, 0, none⟩ = some (.string ⟨#[kb]⟩) := h10.cell 0
              have b1 : wr.cell? ⟨g7, 1, none⟩ = some (.string ⟨val.toArray⟩) := h10.cell 1
              have b2 : wr.cell? ⟨g7, 2, none⟩ = some (.bool false) := h10.cell 2
              clear HZ HS9 HOh HO9 HR9 H9 h10 HB
              have h8B : Below wr.heap.size wr (wr.alloc (.cells #[.string ⟨#[kb]⟩, .string ⟨val.toArray⟩, .bool false] 52)) := (Below.refl _ wr).alloc (Nat.le_refl _) _
              have h8q : Chs (wr.alloc (.cells #[.string ⟨#[kb]⟩, .string ⟨val.toArray⟩, .bool false] 52)) (wr.alloc (.cells #[.string ⟨#[kb]⟩, .string ⟨val.toArray⟩, .bool false] 52)).heap.size (some ⟨wr.heap.size, 0, none⟩) [⟨[kb], val, false⟩] := chs_built wr [⟨[kb], val, false⟩]
              have hcm := Sto.commit (HS10.out.below h8B) He.out HE.out (by omega) (by omega) h8q (fun e => by cases e) (by simp) (c := 1)
              rw [show ([⟨[kb], val, false⟩] : List Chg).length = 1 from rfl] at hcm
              have HS11 := Lib.hid (HS10.out.below h8B)
              have HOh11 := Lib.hid (HOh10.out.below h8B (Nat.le_refl _))
              have HO11 := Lib.hid (HO10.out.below h8B (Nat.le_refl _))
              clear h8B h8q HS10 HOh10 HO10
              go_wp2_with fail
              refine hcm.mono ?_
              intro e w12 h12
              obtain ⟨m12, v12, _, h12, hF12, hS12⟩ := h12
              have hOh12 := HOh11.out.past HS11.out.jr hF12
              have hO12 := HO11.out.past HS11.out.jr hF12
              clear hcm hF12 HOh11 HO11 HS11 b0 b1 b2
              rcases HSay.out with hsy | ⟨hsy, hsz⟩
              · obtain rfl : e = .returned .nilIface := by rw [hsy] at h12; exact h12
                have hr12 := HStep.out.2.2.1 hsy
                generalize (comm t1 [⟨[kb], val, false⟩]).2 = t2 at *
                have hsm := same_any _ g f m12 sb v12 t2 _ _ nx w12 hS12.jr hS12.ok.inv hO12 (fun c hc => hS12.ok.inv.recs.2 c (by rw [hr12]; exact hc)) (by omega)
                have HS12 := Lib.hid hS12
                have HO12 := Lib.hid hO12
                have HR12 := Lib.hid hr12
                clear hS12 hO12 hOh12 hr12 h12 hsy
                go_wp2_with fail
                refine hsm.mono ?_
                rintro e w13 ⟨b13, rfl, hb13, hB13⟩
                obtain rfl : b13 = true := hb13.2 HR12.out
                clear hb13
                have hS13 := HS12.out.below hB13
                have hO13 := HO12.out.below hB13 (Nat.le_refl _)
                have hst13 := hS13.jr
                have hu1 := used_any sb g t2.h v12 w13 hst13.st (by have := (used_le hS13.ok (by omega)).2; unfold roomN at this; omega)
                have hul := (used_le hS13.ok (by omega)).1
                have HS13 := Lib.hid hS13
                have HO13 := Lib.hid hO13
                clear hsm hS13 hO13 hst13 HS12 HO12 hB13
                generalize usedN t2.h = un at hu1 hul
                have hulI : ¬ (n : Int) < un := by omega
                have hunI : ¬ (un : Int) < 0 := by omega
                go_wp2_with fail
                refine hu1.mono ?_
                rintro e w14 ⟨rfl, rfl⟩
                go_wp2_with fail
                refine hu1.mono ?_
                rintro e w15 ⟨rfl, rfl⟩
                go_wp2
                go_roundg (l.length - (i + 1))
                case measure => omega
                case rel => exact ⟨i + 1, by go_num, by omega, Nat.le_refl _, Lib.hid ⟨_, _, _, _, HS13.out, by rw [HR12.out]; exact HO13.out, by have := HK1.out; rw [Nat.succ_mul]; omega, by rw [HR12.out]; omega⟩⟩
              · obtain rfl : e = .returned (resV (ads.getD 3 default) (ads.getD 18 default) (ads.getD 17 default) (ads.getD 2 default) .full) := by rw [hsy] at h12; exact h12
                have ht12 := HStep.out.2.2.2 (by rw [hsy]; simp)
                rw [ht12] at hS12
                clear ht12 h12 hsy hO12
                have hszI : ¬ (zz : Int) ≤ (n : Int) * 128 / 4 - 2048 := by have := HZ2.out; omega
                have his := is_res w12 ads .full (hS12.sents HS.out)
                have HS12a := Lib.hid hS12
                have HO12a := Lib.hid hOh12
                clear hS12 hOh12 hsz
                unfold resV codeR at his
                unfold resV
                go_wp2_with fail
                refine his.mono ?_
                rintro e w12b ⟨rfl, hB12b⟩
                have hS12 := HS12a.out.below hB12b
                have hO12 := HO12a.out.below hB12b (Nat.le_refl _)
                clear his hB12b HS12a HO12a
                have hsm := same_any _ g f m12 sb v12 t1 _ _ t1.r w12b hS12.jr hS12.ok.inv hO12 (fun c hc => hS12.ok.inv.recs.2 c hc) (by omega)
                have HS12 := Lib.hid hS12
                have HO12 := Lib.hid hO12
                clear hS12 hO12
                go_wp2_with fail
                refine hsm.mono ?_
                rintro e w13 ⟨b13, rfl, hb13, hB13⟩
                obtain rfl : b13 = true := hb13.2 rfl
                clear hb13
                have hS13 := HS12.out.below hB13
                have hO13 := HO12.out.below hB13 (Nat.le_refl _)
                have hst13 := hS13.jr
                have hu1 := used_any sb g t1.h v12 w13 hst13.st (by have := (used_le hS13.ok (by omega)).2; unfold roomN at this; omega)
                have hul := (used_le hS13.ok (by omega)).1
                have HS13 := Lib.hid hS13
                have HO13 := Lib.hid hO13
                clear hsm hS13 hO13 hst13 HS12 HO12 hB13
                generalize usedN t1.h = un at hu1 hul
                have hulI : ¬ (n : Int) < un := by omega
                have hunI : ¬ (un : Int) < 0 := by omega
                go_wp2_with fail
                refine hu1.mono ?_
                rintro e w14 ⟨rfl, rfl⟩
                go_wp2_with fail
                refine hu1.mono ?_
                rintro e w15 ⟨rfl, rfl⟩
                go_wp2
                go_roundg (l.length - (i + 1))
                case measure => omega
                case rel => exact ⟨i + 1, by go_num, by omega, Nat.le_refl _, Lib.hid ⟨_, _, _, _, HS13.out, HO13.out, by have := HK1.out; rw [Nat.succ_mul]; omega, by omega⟩⟩
    · have hltI : ¬ (i : Int) < l.length := by omega
      have hro := HS1.out.reopen He.out HE.out (by omega)
      go_wp2_with fail
      refine hro.mono ?_
      rintro e w3 ⟨sb3, v3, rfl, _, hB3, hS3⟩
      have hO3 := HO1.out.below hB3 (Nat.le_refl _)
      have hsm := same_any _ g f m1 sb3 v3 t1 _ _ t1.r w3 hS3.jr hS3.ok.inv hO3 (fun c hc => hS3.ok.inv.recs.2 c hc) (by omega)
      have HS3 := Lib.hid hS3
      clear hro hB3 hO3 hS3 HS1 HO1
      go_wp2_with fail
      refine hsm.mono ?_
      rintro e w4 ⟨b4, rfl, hb4, hB4⟩
      obtain rfl : b4 = true := hb4.2 rfl
      have HB4 := Lib.hid (HS3.out.un.trans (hB4.mono HS3.out.un.size))
      clear hsm hb4 hB4
      go_wp2
      go_ret
      exact ⟨rfl, HB4.out⟩
end Go.Proofs.YtmpklljiddggpaaDoor
