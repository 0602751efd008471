/-
  What pendulumsee.Is says of a store's answer. Conditions: each theorem's own premises.
-/
import Derived.Test.YtimicelafhmdjaaDoorQJpA
import Derived.Test.YtimicelafhmdjaaDoorQDkSee
import Derived.Test.YtimicelafhmdjaaDoorQNumb
namespace Go.Proofs.YtimicelafhmdjaaDoor
open Go.Shelf Go.RowKit Go.Lib Go.Sort
attribute [local go_sem] Oper.semAt_some

theorem es_of {w : World} {ads : List Addr} (h : Sents w ads) : Es w (ads.getD 3 default) (ads.getD 18 default) (ads.getD 17 default) (ads.getD 2 default) :=
  have at_ : ∀ i (hi : i < 21), ads[i]? = some (ads.getD i default) := fun i hi => by rw [List.getD_eq_getElem?_getD]; rw [List.getElem?_eq_getElem (by rw [h.len]; exact hi)]; rfl
  ⟨(h.at_ 3 _ _ rfl (at_ 3 (by omega))).cell, (h.at_ 18 _ _ rfl (at_ 18 (by omega))).cell, (h.at_ 17 _ _ rfl (at_ 17 (by omega))).cell, (h.at_ 2 _ _ rfl (at_ 2 (by omega))).cell⟩
theorem errs_of {w : World} {ads : List Addr} (h : Sents w ads) : Errs w (ads.getD 0 default) (ads.getD 1 default) (ads.getD 3 default) :=
  have at_ : ∀ i (hi : i < 21), ads[i]? = some (ads.getD i default) := fun i hi => by rw [List.getD_eq_getElem?_getD]; rw [List.getElem?_eq_getElem (by rw [h.len]; exact hi)]; rfl
  ⟨(h.at_ 0 _ _ rfl (at_ 0 (by omega))).cell, (h.at_ 1 _ _ rfl (at_ 1 (by omega))).cell, (h.at_ 3 _ _ rfl (at_ 3 (by omega))).cell⟩
theorem ads_at {w : World} {ads : List Addr} (h : Sents w ads) (i : Nat) (hi : i < 21) : ads[i]? = some (ads.getD i default) := by
  rw [List.getD_eq_getElem?_getD, List.getElem?_eq_getElem (by rw [h.len]; exact hi)]
  rfl
/-- What Is says of a store's answer. -/
def codeR : Res → Int
  | .fine => 0
  | .range => 104
  | .many => 103
  | .full => 118
  | .crash => 119
theorem is_res (w : World) (ads : List Addr) (x : Res) (h : Sents w ads) : Calls Tryd.prog 11 #[resV (ads.getD 3 default) (ads.getD 18 default) (ads.getD 17 default) (ads.getD 2 default) x, .int .i64 (codeR x)] w (RetB w (.bool true)) := by
  cases x
  · exact is_nil w
  · exact is_err w ads 3 _ _ (by simp [codeR]) h (ads_at h 3 (by omega))
  · exact is_err w ads 2 _ _ (by simp [codeR]) h (ads_at h 2 (by omega))
  · exact is_err w ads 17 _ _ (by simp [codeR]) h (ads_at h 17 (by omega))
  · exact is_err w ads 18 _ _ (by simp [codeR]) h (ads_at h 18 (by omega))
theorem Sto.sents {w0 w : World} {n K g f m sb : Nat} {v : Value} {t : St} {ads : List Addr} (H : Sto w0 w n K g f m sb v t) (h : Sents w0 ads) : Sents w ads := h.later H.un
theorem Sto.calls {w0 w : World} {n K g f m sb : Nat} {v : Value} {t : St} (H : Sto w0 w n K g f m sb v t) : Calls Tryd.prog 19 #[.pointer (some ⟨g, 0, none⟩)] w fun e w' => e = .returned (.int .i64 t.s.calls) ∧ w' = w := by
  obtain ⟨c, h, _⟩ := H.jr.dk.head
  exact calls_head _ _ _ _ _ _ _ _ _ h
end Go.Proofs.YtimicelafhmdjaaDoor

/-
  The walk of JourNothing. Conditions: each theorem's own premises.
-/
namespace Go.Proofs.YtimicelafhmdjaaDoor
open Go.Shelf Go.RowKit Go.Lib Go.Sort
attribute [local go_sem] Oper.semAt_some

/-- Bytes, all 0. -/
def zeroB (n : Nat) : Array Value := madeCells #[.int .u8 0] n
theorem make_bytes (n : Nat) (w : World) (h : n ≤ 100000) : (Instr.makeSlice 50 (.int .i64 (n : Int)) (.int .i64 (n : Int))).run Tryd.prog w = .ok (.slice (some ⟨w.heap.size, 0, none⟩) n n) (w.alloc (.cells (zeroB n) 5)) := by
  obtain ⟨i, hi, hz, hs, hb⟩ := info_parts Tryd.info8
  have := run_make (P := Tryd.prog) w 50 5 i _ Tryd.underlying50 hi hz .i64 .i64 (n : Int) (n : Int) (by omega) (by omega) (by rw [hb]; omega) (by omega)
  rw [this, hs]
  simp only [Int.toNat_natCast, Nat.mul_one]
  rfl
theorem str_zero (n : Nat) (w : World) : Str (w.alloc (.cells (zeroB n) 5)) (w.heap.size + 1) (some ⟨w.heap.size, 0, none⟩) (List.replicate n 0) := by
  refine ⟨fun _ => ⟨_, rfl, by simp, fun j v hv => ?_⟩⟩
  rw [List.getElem?_replicate] at hv
  split at hv
  · rename_i hj
    cases hv
    rw [lit_add]
    refine (Blk.cell (heap_alloc_new w _) j).trans ?_
    unfold zeroB
    rw [made_cell _ _ _ hj]
    have e1 : j % 1 = 0 := by omega
    show some (#[Value.int .u8 0][j % 1]!) = _
    rw [e1]
    rfl
  · cases hv
theorem bad_one {k v : List UInt8} {b : Bool} (h : 1 ≤ k.length ∧ k.length ≤ 40) : ([⟨k, v, b⟩] : List Chg).any badKey = false := by
  simp only [List.any_cons, List.any_nil, Bool.or_false, badKey, Bool.or_eq_false_iff, decide_eq_false_iff_not]
  omega
theorem bad_val {k v : List UInt8} {b : Bool} (h : v.length ≤ 32768) : ([⟨k, v, b⟩] : List Chg).any badVal = false := by
  simp only [List.any_cons, List.any_nil, Bool.or_false, badVal, decide_eq_false_iff_not]
  omega
theorem idle_one (k v : List UInt8) : eff [⟨k, v, false⟩] [⟨k, v, false⟩] = [] := eff_one (by simp [idle, strip, getC])
theorem idle_x (k v : List UInt8) : eff [⟨k, v, false⟩] [⟨k ++ [120], [], true⟩] = [] := eff_one (by simp [idle, strip, getC])
theorem get_one (k v : List UInt8) : getV k [⟨k, v, false⟩] = v ∧ getB k [⟨k, v, false⟩] = true := by
  constructor <;> simp [getV, getB, getC]
set_option maxRecDepth 100000 in
set_option maxHeartbeats 4000000 in
theorem nothing_any (key value : List UInt8) (what : Int) (w : World) (ads : List Addr) (hS : Sents w ads) :
    Calls Tryd.prog 5 #[.string ⟨key.toArray⟩, .string ⟨value.toArray⟩, .int .i64 what] w (RetYes w) := by
  have HE := Lib.hid (es_of hS)
  have He := Lib.hid (errs_of hS)
  have HS := Lib.hid hS
  have hch := chap_any w _ _ _ _ _ _ He.out HE.out
  clear hS
  go_enter Tryd.func5, Tryd.ntmps5
  go_wp2_with fail
  refine hch.mono ?_
  rintro e w1 ⟨rfl, hB1⟩
  have HB1 := Lib.hid hB1
  clear hch hB1
  by_cases hk1 : key.length < 1
  · have hkI : (key.length : Int) < 1 := by omega
    go_wp2
    go_ret
    exact ⟨rfl, HB1.out⟩
  have hk1I : ¬ (key.length : Int) < 1 := by omega
  by_cases hk2 : 40 < key.length
  · have hkI : (40 : Int) < key.length := by omega
    go_wp2
    go_ret
    exact ⟨rfl, HB1.out⟩
  have hk2I : ¬ (40 : Int) < key.length := by omega
  by_cases hv1 : 300 < value.length
  · have hvI : (300 : Int) < value.length := by omega
    go_wp2
    go_ret
    exact ⟨rfl, HB1.out⟩
  have hv1I : ¬ (300 : Int) < value.length := by omega
  have hop := opened_any 300 w1 _ _ _ _ _ _ (by omega) (by omega) (He.out.below HB1.out (Nat.le_refl _)) (HE.out.fr ((Fr.refl [] w).belows HB1.out (Nat.le_refl _)) (by simp))
  go_wp2_with fail
  refine hop.mono ?_
  intro e w2 h2
  obtain ⟨g, f, m, sb, v, rfl, hSt⟩ := h2.sto HB1.out
  obtain ⟨o1, o2, o3⟩ := one_rec (k := key) (v := value) ⟨by omega, by omega⟩ (by omega)
  clear h2 hop
  generalize newSt 300 = t0 at hSt o1 o2 o3
  have hb3 : Below w2.heap.size w2 (w2.alloc (.cells #[.string ⟨key.toArray⟩, .string ⟨value.toArray⟩, .bool false] 52)) := (Below.refl _ w2).alloc (Nat.le_refl _) _
  have hq3 : Chs (w2.alloc (.cells #[.string ⟨key.toArray⟩, .string ⟨value.toArray⟩, .bool false] 52)) (w2.alloc (.cells #[.string ⟨key.toArray⟩, .string ⟨value.toArray⟩, .bool false] 52)).heap.size (some ⟨w2.heap.size, 0, none⟩) [⟨key, value, false⟩] := chs_built w2 [⟨key, value, false⟩]
  have hc3 := Sto.commit (hSt.below hb3) He.out HE.out (by omega) (by omega) hq3 (fun e => by cases e) (by simp) (c := 1)
  rw [show ([⟨key, value, false⟩] : List Chg).length = 1 from rfl] at hc3
  clear hb3 hq3
  have HO := Lib.hid (And.intro o1 (And.intro o2 o3))
  clear hSt o1 o2 o3
  go_wp2_with fail
  refine hc3.mono ?_
  intro e w4 h4
  obtain ⟨m4, v4, _, h4, _, hS4⟩ := h4
  obtain rfl : e = .returned .nilIface := by rw [HO.out.1] at h4; exact h4
  clear h4 hc3
  have hT := HO.out.2
  generalize (comm t0 [⟨key, value, false⟩]).2 = t at hS4 hT
  have hcl := hS4.calls
  have HS4 := Lib.hid (show Sto w w4 300 303 g f m4 sb v4 t from hS4)
  have HT := Lib.hid hT
  clear hS4 hT HO
  go_wp2_with fail
  refine hcl.mono ?_
  rintro e w5 ⟨rfl, rfl⟩
  have hnu := number_any what 5 w5 (by omega) (by omega)
  clear hcl
  go_wp2_with fail
  refine hnu.mono ?_
  rintro e w6 ⟨rfl, rfl⟩
  have hq5 : 0 ≤ what % 5 ∧ what % 5 < 5 := ⟨Int.emod_nonneg _ (by omega), Int.emod_lt_of_pos _ (by omega)⟩
  clear hnu
  generalize what % 5 = q at *
  obtain ⟨r1, r2⟩ := HT.out
  have HR := Lib.hid r1
  have HK := Lib.hid r2
  clear HT r1 r2
  by_cases hq0 : q = 0
  · subst hq0
    have hcx := Sto.commit HS4.out He.out HE.out (by omega) (by omega) (A := none) (c := 0) (l := []) Chs.nil (fun _ => rfl) (by simp)
    rw [show ([] : List Chg).length = 0 from rfl] at hcx
    have hdt := comm_idle HK.out (l := []) rfl rfl rfl
    go_wp2_with fail
    refine hcx.mono ?_
    intro e w8 h8
    obtain ⟨m8, v8, _, h8, _, hS8⟩ := h8
    obtain rfl : e = .returned (resV (ads.getD 3 default) (ads.getD 18 default) (ads.getD 17 default) (ads.getD 2 default) .fine) := by rw [hdt] at h8; exact h8
    rw [hdt] at hS8
    have hS8 : Sto w w8 300 _ g f m8 sb v8 t := hS8
    have hgt := hS8.get key
    have HS8 := Lib.hid hS8
    clear hcx h8 hS8 hdt
    go_wp2_with fail
    refine hgt.mono ?_
    rintro e w9 ⟨h9, hB9⟩
    obtain rfl : e = .returned (.tuple #[.string ⟨value.toArray⟩, .bool true]) := by rw [HR.out, (get_one key value).1, (get_one key value).2] at h9; exact h9
    have hS9 := HS8.out.below hB9
    have his := is_res w9 ads .fine (hS9.sents HS.out)
    have HS9 := Lib.hid hS9
    clear hgt h9 hB9 hS9
    unfold codeR at his
    go_wp2_with fail
    refine his.mono ?_
    rintro e w10 ⟨rfl, hB10⟩
    have hS10 := HS9.out.below hB10
    have hcl := hS10.calls
    have HS10 := Lib.hid hS10
    clear his hB10 hS10
    go_wp2_with fail
    refine hcl.mono ?_
    rintro e w11 ⟨rfl, rfl⟩
    have hky := HS10.out.keys
    clear hcl
    go_wp2_with fail
    refine hky.mono ?_
    rintro e w12 ⟨v12, rfl, hO12, hB12⟩
    rw [HR.out] at hO12
    obtain ⟨A12, c12, hv12, _⟩ := hO12.rw
    obtain rfl : v12 = .slice A12 1 c12 := hv12
    have HB12 := Lib.hid (HS10.out.un.trans (hB12.mono HS10.out.un.size))
    clear hky hO12 hB12
    go_wp2
    go_ret
    exact ⟨rfl, HB12.out⟩
  by_cases hq1 : q = 1
  · subst hq1
    have hbx : Below w5.heap.size w5 (w5.alloc (.cells #[.string ⟨key.toArray⟩, .string ⟨value.toArray⟩, .bool false] 52)) := (Below.refl _ w5).alloc (Nat.le_refl _) _
    have hqx : Chs (w5.alloc (.cells #[.string ⟨key.toArray⟩, .string ⟨value.toArray⟩, .bool false] 52)) (w5.alloc (.cells #[.string ⟨key.toArray⟩, .string ⟨value.toArray⟩, .bool false] 52)).heap.size (some ⟨w5.heap.size, 0, none⟩) [⟨key, value, false⟩] := chs_built w5 [⟨key, value, false⟩]
    have hcx := Sto.commit (HS4.out.below hbx) He.out HE.out (by omega) (by omega) hqx (fun e => by cases e) (by simp) (c := 1)
    rw [show ([⟨key, value, false⟩] : List Chg).length = 1 from rfl] at hcx
    clear hbx hqx
    have hdt := comm_idle HK.out (l := [⟨key, value, false⟩]) (bad_one (by omega)) (bad_val (by omega)) (by rw [HR.out]; exact idle_one key value)
    go_wp2_with fail
    refine hcx.mono ?_
    intro e w8 h8
    obtain ⟨m8, v8, _, h8, _, hS8⟩ := h8
    obtain rfl : e = .returned (resV (ads.getD 3 default) (ads.getD 18 default) (ads.getD 17 default) (ads.getD 2 default) .fine) := by rw [hdt] at h8; exact h8
    rw [hdt] at hS8
    have hS8 : Sto w w8 300 _ g f m8 sb v8 t := hS8
    have hgt := hS8.get key
    have HS8 := Lib.hid hS8
    clear hcx h8 hS8 hdt
    go_wp2_with fail
    refine hgt.mono ?_
    rintro e w9 ⟨h9, hB9⟩
    obtain rfl : e = .returned (.tuple #[.string ⟨value.toArray⟩, .bool true]) := by rw [HR.out, (get_one key value).1, (get_one key value).2] at h9; exact h9
    have hS9 := HS8.out.below hB9
    have his := is_res w9 ads .fine (hS9.sents HS.out)
    have HS9 := Lib.hid hS9
    clear hgt h9 hB9 hS9
    unfold codeR at his
    go_wp2_with fail
    refine his.mono ?_
    rintro e w10 ⟨rfl, hB10⟩
    have hS10 := HS9.out.below hB10
    have hcl := hS10.calls
    have HS10 := Lib.hid hS10
    clear his hB10 hS10
    go_wp2_with fail
    refine hcl.mono ?_
    rintro e w11 ⟨rfl, rfl⟩
    have hky := HS10.out.keys
    clear hcl
    go_wp2_with fail
    refine hky.mono ?_
    rintro e w12 ⟨v12, rfl, hO12, hB12⟩
    rw [HR.out] at hO12
    obtain ⟨A12, c12, hv12, _⟩ := hO12.rw
    obtain rfl : v12 = .slice A12 1 c12 := hv12
    have HB12 := Lib.hid (HS10.out.un.trans (hB12.mono HS10.out.un.size))
    clear hky hO12 hB12
    go_wp2
    go_ret
    exact ⟨rfl, HB12.out⟩
  by_cases hq2 : q = 2
  · subst hq2
    by_cases h40 : key.length = 40
    · have h40I : (key.length : Int) = 40 := by omega
      have hbx : Below w5.heap.size w5 (w5.alloc (.cells #[.string ⟨(key ++ [120]).toArray⟩, .string ⟨#[]⟩, .bool true] 52)) := (Below.refl _ w5).alloc (Nat.le_refl _) _
      have hqx : Chs (w5.alloc (.cells #[.string ⟨(key ++ [120]).toArray⟩, .string ⟨#[]⟩, .bool true] 52)) (w5.alloc (.cells #[.string ⟨(key ++ [120]).toArray⟩, .string ⟨#[]⟩, .bool true] 52)).heap.size (some ⟨w5.heap.size, 0, none⟩) [⟨key ++ [120], [], true⟩] := chs_built w5 [⟨key ++ [120], [], true⟩]
      have hcx := Sto.commit (HS4.out.below hbx) He.out HE.out (by omega) (by omega) hqx (fun e => by cases e) (by simp) (c := 1)
      rw [show ([⟨key ++ [120], [], true⟩] : List Chg).length = 1 from rfl] at hcx
      clear hbx hqx
      have hdt := comm_key (t := t) (l := [⟨key ++ [120], [], true⟩]) (by simp [badKey]; omega)
      go_wp2_with fail
      refine hcx.mono ?_
      intro e w8 h8
      obtain ⟨m8, v8, _, h8, _, hS8⟩ := h8
      obtain rfl : e = .returned (resV (ads.getD 3 default) (ads.getD 18 default) (ads.getD 17 default) (ads.getD 2 default) .range) := by rw [hdt] at h8; exact h8
      rw [hdt] at hS8
      have hS8 : Sto w w8 300 _ g f m8 sb v8 t := hS8
      have hgt := hS8.get key
      have HS8 := Lib.hid hS8
      clear hcx h8 hS8 hdt
      go_wp2_with fail
      refine hgt.mono ?_
      rintro e w9 ⟨h9, hB9⟩
      obtain rfl : e = .returned (.tuple #[.string ⟨value.toArray⟩, .bool true]) := by rw [HR.out, (get_one key value).1, (get_one key value).2] at h9; exact h9
      have hS9 := HS8.out.below hB9
      have his := is_res w9 ads .range (hS9.sents HS.out)
      have HS9 := Lib.hid hS9
      clear hgt h9 hB9 hS9
      unfold codeR at his
      go_wp2_with fail
      refine his.mono ?_
      rintro e w10 ⟨rfl, hB10⟩
      have hS10 := HS9.out.below hB10
      have hcl := hS10.calls
      have HS10 := Lib.hid hS10
      clear his hB10 hS10
      go_wp2_with fail
      refine hcl.mono ?_
      rintro e w11 ⟨rfl, rfl⟩
      have hky := HS10.out.keys
      clear hcl
      go_wp2_with fail
      refine hky.mono ?_
      rintro e w12 ⟨v12, rfl, hO12, hB12⟩
      rw [HR.out] at hO12
      obtain ⟨A12, c12, hv12, _⟩ := hO12.rw
      obtain rfl : v12 = .slice A12 1 c12 := hv12
      have HB12 := Lib.hid (HS10.out.un.trans (hB12.mono HS10.out.un.size))
      clear hky hO12 hB12
      go_wp2
      go_ret
      exact ⟨rfl, HB12.out⟩
    · have h40I : ¬ (key.length : Int) = 40 := by omega
      have hbx : Below w5.heap.size w5 (w5.alloc (.cells #[.string ⟨(key ++ [120]).toArray⟩, .string ⟨#[]⟩, .bool true] 52)) := (Below.refl _ w5).alloc (Nat.le_refl _) _
      have hqx : Chs (w5.alloc (.cells #[.string ⟨(key ++ [120]).toArray⟩, .string ⟨#[]⟩, .bool true] 52)) (w5.alloc (.cells #[.string ⟨(key ++ [120]).toArray⟩, .string ⟨#[]⟩, .bool true] 52)).heap.size (some ⟨w5.heap.size, 0, none⟩) [⟨key ++ [120], [], true⟩] := chs_built w5 [⟨key ++ [120], [], true⟩]
      have hcx := Sto.commit (HS4.out.below hbx) He.out HE.out (by omega) (by omega) hqx (fun e => by cases e) (by simp) (c := 1)
      rw [show ([⟨key ++ [120], [], true⟩] : List Chg).length = 1 from rfl] at hcx
      clear hbx hqx
      have hdt := comm_idle HK.out (l := [⟨key ++ [120], [], true⟩]) (bad_one (by simp; omega)) (bad_val (by simp)) (by rw [HR.out]; exact idle_x key value)
      go_wp2_with fail
      refine hcx.mono ?_
      intro e w8 h8
      obtain ⟨m8, v8, _, h8, _, hS8⟩ := h8
      obtain rfl : e = .returned (resV (ads.getD 3 default) (ads.getD 18 default) (ads.getD 17 default) (ads.getD 2 default) .fine) := by rw [hdt] at h8; exact h8
      rw [hdt] at hS8
      have hS8 : Sto w w8 300 _ g f m8 sb v8 t := hS8
      have hgt := hS8.get key
      have HS8 := Lib.hid hS8
      clear hcx h8 hS8 hdt
      go_wp2_with fail
      refine hgt.mono ?_
      rintro e w9 ⟨h9, hB9⟩
      obtain rfl : e = .returned (.tuple #[.string ⟨value.toArray⟩, .bool true]) := by rw [HR.out, (get_one key value).1, (get_one key value).2] at h9; exact h9
      have hS9 := HS8.out.below hB9
      have his := is_res w9 ads .fine (hS9.sents HS.out)
      have HS9 := Lib.hid hS9
      clear hgt h9 hB9 hS9
      unfold codeR at his
      go_wp2_with fail
      refine his.mono ?_
      rintro e w10 ⟨rfl, hB10⟩
      have hS10 := HS9.out.below hB10
      have hcl := hS10.calls
      have HS10 := Lib.hid hS10
      clear his hB10 hS10
      go_wp2_with fail
      refine hcl.mono ?_
      rintro e w11 ⟨rfl, rfl⟩
      have hky := HS10.out.keys
      clear hcl
      go_wp2_with fail
      refine hky.mono ?_
      rintro e w12 ⟨v12, rfl, hO12, hB12⟩
      rw [HR.out] at hO12
      obtain ⟨A12, c12, hv12, _⟩ := hO12.rw
      obtain rfl : v12 = .slice A12 1 c12 := hv12
      have HB12 := Lib.hid (HS10.out.un.trans (hB12.mono HS10.out.un.size))
      clear hky hO12 hB12
      go_wp2
      go_ret
      exact ⟨rfl, HB12.out⟩
  by_cases hq3 : q = 3
  · subst hq3
    have hbx : Below w5.heap.size w5 (w5.alloc (.cells #[.string ⟨#[97]⟩, .string ⟨#[98]⟩, .bool false, .string ⟨#[]⟩, .string ⟨#[99]⟩, .bool false] 52)) := (Below.refl _ w5).alloc (Nat.le_refl _) _
    have hqx : Chs (w5.alloc (.cells #[.string ⟨#[97]⟩, .string ⟨#[98]⟩, .bool false, .string ⟨#[]⟩, .string ⟨#[99]⟩, .bool false] 52)) (w5.alloc (.cells #[.string ⟨#[97]⟩, .string ⟨#[98]⟩, .bool false, .string ⟨#[]⟩, .string ⟨#[99]⟩, .bool false] 52)).heap.size (some ⟨w5.heap.size, 0, none⟩) [⟨[97], [98], false⟩, ⟨[], [99], false⟩] := chs_built w5 [⟨[97], [98], false⟩, ⟨[], [99], false⟩]
    have hcx := Sto.commit (HS4.out.below hbx) He.out HE.out (by omega) (by omega) hqx (fun e => by cases e) (by simp) (c := 2)
    rw [show ([⟨[97], [98], false⟩, ⟨[], [99], false⟩] : List Chg).length = 2 from rfl] at hcx
    clear hbx hqx
    have hdt := comm_key (t := t) (l := [⟨[97], [98], false⟩, ⟨[], [99], false⟩]) rfl
    go_wp2_with fail
    refine hcx.mono ?_
    intro e w8 h8
    obtain ⟨m8, v8, _, h8, _, hS8⟩ := h8
    obtain rfl : e = .returned (resV (ads.getD 3 default) (ads.getD 18 default) (ads.getD 17 default) (ads.getD 2 default) .range) := by rw [hdt] at h8; exact h8
    rw [hdt] at hS8
    have hS8 : Sto w w8 300 _ g f m8 sb v8 t := hS8
    have hgt := hS8.get key
    have HS8 := Lib.hid hS8
    clear hcx h8 hS8 hdt
    go_wp2_with fail
    refine hgt.mono ?_
    rintro e w9 ⟨h9, hB9⟩
    obtain rfl : e = .returned (.tuple #[.string ⟨value.toArray⟩, .bool true]) := by rw [HR.out, (get_one key value).1, (get_one key value).2] at h9; exact h9
    have hS9 := HS8.out.below hB9
    have his := is_res w9 ads .range (hS9.sents HS.out)
    have HS9 := Lib.hid hS9
    clear hgt h9 hB9 hS9
    unfold codeR at his
    go_wp2_with fail
    refine his.mono ?_
    rintro e w10 ⟨rfl, hB10⟩
    have hS10 := HS9.out.below hB10
    have hcl := hS10.calls
    have HS10 := Lib.hid hS10
    clear his hB10 hS10
    go_wp2_with fail
    refine hcl.mono ?_
    rintro e w11 ⟨rfl, rfl⟩
    have hky := HS10.out.keys
    clear hcl
    go_wp2_with fail
    refine hky.mono ?_
    rintro e w12 ⟨v12, rfl, hO12, hB12⟩
    rw [HR.out] at hO12
    obtain ⟨A12, c12, hv12, _⟩ := hO12.rw
    obtain rfl : v12 = .slice A12 1 c12 := hv12
    have HB12 := Lib.hid (HS10.out.un.trans (hB12.mono HS10.out.un.size))
    clear hky hO12 hB12
    go_wp2
    go_ret
    exact ⟨rfl, HB12.out⟩
  obtain rfl : q = 4 := by omega
  obtain ⟨N, hN⟩ : ∃ N, N = 32769 := ⟨_, rfl⟩
  have hmk : (Instr.makeSlice 50 (.int .i64 32769) (.int .i64 32769)).run Tryd.prog w5 = .ok (.slice (some ⟨w5.heap.size, 0, none⟩) 32769 32769) (w5.alloc (.cells (zeroB N) 5)) := by
    have := make_bytes N w5 (by omega)
    rw [hN] at this ⊢
    exact this
  have hb6 : Below w5.heap.size w5 (w5.alloc (.cells (zeroB N) 5)) := (Below.refl _ w5).alloc (Nat.le_refl _) _
  have hcv : (convert 50 9 (.slice (some ⟨w5.heap.size, 0, none⟩) 32769 32769)).run Tryd.prog (w5.alloc (.cells (zeroB N) 5)) = .ok (.string ⟨(List.replicate N 0).toArray⟩) (w5.alloc (.cells (zeroB N) 5)) := by
    have := run_str (w5.alloc (.cells (zeroB N) 5)) (w5.heap.size + 1) (some ⟨w5.heap.size, 0, none⟩) 32769 (List.replicate N 0) (str_zero N w5)
    rw [List.length_replicate] at this
    rw [hN] at this ⊢
    exact this
  have HN := Lib.hid (show 32768 < N by omega)
  have HS6 := Lib.hid (HS4.out.below hb6)
  have hz6 : (w5.alloc (.cells (zeroB N) 5)).heap.size = w5.heap.size + 1 := by simp
  clear hN hb6
  have hbx : Below (w5.alloc (.cells (zeroB N) 5)).heap.size (w5.alloc (.cells (zeroB N) 5)) ((w5.alloc (.cells (zeroB N) 5)).alloc (.cells #[.string ⟨#[97]⟩, .string ⟨(List.replicate N 0).toArray⟩, .bool false] 52)) := (Below.refl _ (w5.alloc (.cells (zeroB N) 5))).alloc (Nat.le_refl _) _
  have hqx : Chs ((w5.alloc (.cells (zeroB N) 5)).alloc (.cells #[.string ⟨#[97]⟩, .string ⟨(List.replicate N 0).toArray⟩, .bool false] 52)) ((w5.alloc (.cells (zeroB N) 5)).alloc (.cells #[.string ⟨#[97]⟩, .string ⟨(List.replicate N 0).toArray⟩, .bool false] 52)).heap.size (some ⟨(w5.alloc (.cells (zeroB N) 5)).heap.size, 0, none⟩) [⟨[97], List.replicate N 0, false⟩] := chs_built (w5.alloc (.cells (zeroB N) 5)) [⟨[97], List.replicate N 0, false⟩]
  have hcx := Sto.commit (HS6.out.below hbx) He.out HE.out (by omega) (by omega) hqx (fun e => by cases e) (by simp) (c := 1)
  rw [show ([⟨[97], List.replicate N 0, false⟩] : List Chg).length = 1 from rfl] at hcx
  clear hbx hqx
  rw [hz6] at hcx
  have hdt := comm_val (t := t) (l := [⟨[97], List.replicate N 0, false⟩]) (bad_one (by simp)) (by simp [badVal]; exact HN.out)
  go_wp2_with fail
  refine hcx.mono ?_
  intro e w8 h8
  obtain ⟨m8, v8, _, h8, _, hS8⟩ := h8
  obtain rfl : e = .returned (resV (ads.getD 3 default) (ads.getD 18 default) (ads.getD 17 default) (ads.getD 2 default) .many) := by rw [hdt] at h8; exact h8
  rw [hdt] at hS8
  have hS8 : Sto w w8 300 _ g f m8 sb v8 t := hS8
  have hgt := hS8.get key
  have HS8 := Lib.hid hS8
  clear hcx h8 hS8 hdt
  go_wp2_with fail
  refine hgt.mono ?_
  rintro e w9 ⟨h9, hB9⟩
  obtain rfl : e = .returned (.tuple #[.string ⟨value.toArray⟩, .bool true]) := by rw [HR.out, (get_one key value).1, (get_one key value).2] at h9; exact h9
  have hS9 := HS8.out.below hB9
  have his := is_res w9 ads .many (hS9.sents HS.out)
  have HS9 := Lib.hid hS9
  clear hgt h9 hB9 hS9
  unfold codeR at his
  go_wp2_with fail
  refine his.mono ?_
  rintro e w10 ⟨rfl, hB10⟩
  have hS10 := HS9.out.below hB10
  have hcl := hS10.calls
  have HS10 := Lib.hid hS10
  clear his hB10 hS10
  go_wp2_with fail
  refine hcl.mono ?_
  rintro e w11 ⟨rfl, rfl⟩
  have hky := HS10.out.keys
  clear hcl
  go_wp2_with fail
  refine hky.mono ?_
  rintro e w12 ⟨v12, rfl, hO12, hB12⟩
  rw [HR.out] at hO12
  obtain ⟨A12, c12, hv12, _⟩ := hO12.rw
  obtain rfl : v12 = .slice A12 1 c12 := hv12
  have HB12 := Lib.hid (HS10.out.un.trans (hB12.mono HS10.out.un.size))
  clear hky hO12 hB12
  go_wp2
  go_ret
  exact ⟨rfl, HB12.out⟩
end Go.Proofs.YtimicelafhmdjaaDoor
