/-
  The walks of wire's reading functions: readNum, readText, the reader's methods. Conditions: each theorem's own premises.
-/
import Derived.Test.YtmpklljiddggpaaGreatDoorQGet
import Derived.Laws.BytesArg
namespace Go.Proofs.YtmpklljiddggpaaGreatDoor
open Go.RowKit

theorem dec_code : ∀ (l : List UInt8) (X k : Nat), (dec X k l).code = 0 ∨ dec X k l = ⟨1, 0, 0⟩ ∨ dec X k l = ⟨2, 0, 0⟩ := by
  intro l
  induction l with
  | nil => intro X k; exact .inr (.inr rfl)
  | cons c l ih =>
    intro X k
    rw [dec]
    by_cases h1 : (k = 9 ∧ 1 < c.toNat) ∨ (0 < k ∧ c.toNat = 0)
    · rw [if_pos h1]; exact .inr (.inl rfl)
    · rw [if_neg h1]
      by_cases h2 : c.toNat < 128
      · rw [if_pos h2]; exact .inl rfl
      · rw [if_neg h2]; exact ih _ _

/-- A number as it is read: code 0: n, and how many bytes it had; 1: the shape, 2: the end, 3: the range. -/
structure NumGot where
  code : Nat
  n : Int
  size : Nat
def numOf (l : List UInt8) (lo hi : Int) : NumGot :=
  if (dec 0 0 l).code = 0 then (if unzz (dec 0 0 l).z < lo ∨ hi < unzz (dec 0 0 l).z then ⟨3, 0, 0⟩ else ⟨0, unzz (dec 0 0 l).z, (dec 0 0 l).size⟩) else ⟨(dec 0 0 l).code, 0, 0⟩
def RetNum (w : World) (aE aS aR : Addr) (r : NumGot) (e : Ending) (w' : World) : Prop :=
  e = .returned (.tuple #[.int .i64 r.n, .int .i64 (r.size : Int), errOf aE aS aR r.code]) ∧ ∃ m, w' = w.drewN m
theorem unzz_range (z : Nat) (h : z < 18446744073709551616) : -9223372036854775808 ≤ unzz z ∧ unzz z ≤ 9223372036854775807 := by
  unfold unzz; split <;> omega
theorem retNum_of {w w' : World} {aE aS aR : Addr} {r : NumGot} {m : Nat} {c : Nat} {n : Int} {s : Int} (hr : r = ⟨c, n, s.toNat⟩) (hs : 0 ≤ s) (v : Value) (hv : v = errOf aE aS aR c) (hw : w' = w.drewN m) :
    RetNum w aE aS aR r (.returned (.tuple #[.int .i64 n, .int .i64 s, v])) w' := by
  subst hr; subst hv
  refine ⟨?_, m, hw⟩
  show _ = Ending.returned (.tuple #[.int .i64 n, .int .i64 ((s.toNat : Nat) : Int), _])
  rw [Int.toNat_of_nonneg hs]

set_option maxHeartbeats 1000000 in
set_option maxRecDepth 100000 in
theorem readNum_any (A : Option Addr) (n c : Nat) (l : List UInt8) (lo hi : Int) (w : World) (B : Nat) (aE aS aR : Addr) (hn : n = l.length) (hl : n ≤ 4294967296) (hs : Str w B A l) (he : Errs w aE aS aR) :
    Calls Tryz.prog 87 #[.slice A n c, .int .i64 lo, .int .i64 hi] w (RetNum w aE aS aR (numOf l lo hi)) := by
  have hb := readBits_any A n c l w B aE aS aR hn hl hs he
  have hgR := he.r
  clear hn hs he
  rcases dec_code l 0 0 with h0 | h1 | h2
  · obtain ⟨z, hz⟩ : ∃ z, z = (dec 0 0 l).z := ⟨_, rfl⟩
    obtain ⟨k, hk⟩ : ∃ k, k = (dec 0 0 l).size := ⟨_, rfl⟩
    have hzl : z < 18446744073709551616 := by rw [hz]; exact dec_lt l 0 0 (by decide) (by omega) h0
    have hkl : k ≤ 4294967296 ∨ True := .inr trivial
    unfold RetBits at hb
    rw [h0, ← hz, ← hk, show errOf aE aS aR 0 = .nilIface from rfl] at hb
    have HB := Lib.hid hb
    have HR : Hid (numOf l lo hi = if unzz z < lo ∨ hi < unzz z then ⟨3, 0, 0⟩ else ⟨0, unzz z, k⟩) := Lib.hid (by unfold numOf; rw [if_pos h0, ← hz, ← hk])
    have hu := unzigzag_any z
    have HU := Lib.hid hu
    have HZ := Lib.hid hzl
    clear hb hz hk h0 hu hzl hkl
    generalize numOf l lo hi = r at *
    generalize unzz z = x at *
    by_cases h1 : x < lo
    · have HR1 : Hid (r = ⟨3, 0, (0 : Int).toNat⟩) := Lib.hid (by rw [HR.out, if_pos (.inl h1)]; rfl)
      have hd1 : decide (x < lo) = true := decide_eq_true h1
      clear HR
      go_enter Tryz.func87, Tryz.ntmps87
      go_wp2_with fail
      refine HB.out.mono ?_
      rintro e w' ⟨rfl, m, rfl⟩
      go_wp2_with fail
      refine (HU.out _ HZ.out).mono ?_
      rintro e w' ⟨rfl, rfl⟩
      go_wp2_with fail
      go_quiet (fail)
      go_wp2
      go_ret3
      exact retNum_of (m := _) HR1.out (by omega) _ rfl (World.drewN_drewN ..)
    · have hd1 : decide (x < lo) = false := decide_eq_false h1
      by_cases h2 : hi < x
      · have HR1 : Hid (r = ⟨3, 0, (0 : Int).toNat⟩) := Lib.hid (by rw [HR.out, if_pos (.inr h2)]; rfl)
        have hd2 : decide (hi < x) = true := decide_eq_true h2
        clear HR
        go_enter Tryz.func87, Tryz.ntmps87
        go_wp2_with fail
        refine HB.out.mono ?_
        rintro e w' ⟨rfl, m, rfl⟩
        go_wp2_with fail
        refine (HU.out _ HZ.out).mono ?_
        rintro e w' ⟨rfl, rfl⟩
        go_wp2_with fail
        go_quiet (fail)
        go_wp2
        go_ret3
        exact retNum_of (m := _) HR1.out (by omega) _ rfl (World.drewN_drewN ..)
      · have HR1 : Hid (r = ⟨0, x, (k : Int).toNat⟩) := Lib.hid (by rw [HR.out, if_neg (by omega)]; rfl)
        have hd2 : decide (hi < x) = false := decide_eq_false h2
        clear HR
        go_enter Tryz.func87, Tryz.ntmps87
        go_wp2_with fail
        refine HB.out.mono ?_
        rintro e w' ⟨rfl, m, rfl⟩
        go_wp2_with fail
        refine (HU.out _ HZ.out).mono ?_
        rintro e w' ⟨rfl, rfl⟩
        go_wp2
        go_ret3
        exact retNum_of (m := _) HR1.out (by omega) _ rfl rfl
  all_goals
    first
    | (have h := h1)
    | (have h := h2)
    unfold RetBits at hb
    have HR1 : Hid (numOf l lo hi = ⟨(dec 0 0 l).code, 0, (0 : Int).toNat⟩) := Lib.hid (by unfold numOf; rw [if_neg (by rw [h]; simp)]; rfl)
    rw [h] at hb HR1
    dsimp only [errOf] at hb HR1
    have HB := Lib.hid hb
    generalize numOf l lo hi = r at *
    clear hb h
    first
    | clear h1
    | clear h2
    go_enter Tryz.func87, Tryz.ntmps87
    go_wp2_with fail
    refine HB.out.mono ?_
    rintro e w' ⟨rfl, m, rfl⟩
    go_wp2
    go_ret3
    exact retNum_of (m := _) HR1.out (by omega) _ rfl rfl

theorem ba_toNat (u : UInt8) : UInt8.ofNat ((u.toNat : Int)).toNat = u := by simp
/-- string(b) of bytes that are read. -/
theorem run_str (w : World) (B : Nat) (A : Option Addr) (c : Nat) (l : List UInt8) (hs : Str w B A l) :
    (convert 88 9 (.slice A l.length c)).run Tryz.prog w = .ok (.string ⟨l.toArray⟩) w := by
  rw [run_convert_bytes_string w 88 9 5 _ _ c Tryz.underlying88 Tryz.underlying5 Tryz.underlying9]
  rcases A with _ | ad
  · have h : l = [] := by
      rcases l with _ | ⟨u, l⟩
      · rfl
      · obtain ⟨ad, h, _⟩ := hs.here (by simp)
        cases h
    subst h
    simp [Conv.bytesToString, ByteArray.empty, ByteArray.emptyWithCapacity]
    rfl
  · have hl : (loadCells ad l.length).run Tryz.prog w = .ok ((l.map fun u => (u.toNat : Int)).map (Value.int .u8)).toArray w := by
      have := run_loadCells_list (P := Tryz.prog) w ad ((l.map fun u => (u.toNat : Int)).map (Value.int .u8)) (fun j v hj => by
        rw [List.getElem?_map, List.getElem?_map] at hj
        obtain ⟨x, hx, rfl⟩ := Option.map_eq_some_iff.1 hj
        obtain ⟨u, hu, rfl⟩ := Option.map_eq_some_iff.1 hx
        obtain ⟨ad', h, _, hc⟩ := hs.here (by rintro rfl; simp at hu)
        cases h
        exact hc j u hu)
      simpa using this
    rw [run_bytesToString w _ _ c _ hl, foldl_push_bytes]
    congr 3
    simp only [ByteArray.empty, ByteArray.emptyWithCapacity, List.map_map]
    rw [show (fun n : Int => UInt8.ofNat n.toNat) ∘ (fun u : UInt8 => (u.toNat : Int)) = id from by funext u; exact ba_toNat u, List.map_id]
    exact Array.empty_append ..

theorem Str.cut' {w : World} {B : Nat} {A : Option Addr} {l : List UInt8} (h : Str w B A l) (k : Nat) {c : Nat} (hc : l.length ≤ c) : Str w B (if c = k then A else A.map (·.add k)) (l.drop k) := by
  by_cases hk : k < c
  · exact h.cut hk
  · rw [List.drop_eq_nil_of_le (by omega)]; exact Str.nil
theorem run_cut (A : Option Addr) (n c k x : Nat) (W : World) (h : k + x ≤ c) :
    (Instr.slice 88 (.slice A n c) (some (.int .i64 (k : Int))) (some (.int .i64 ((k : Int) + (x : Int)))) none).run Tryz.prog W = .ok (.slice (if c = k then A else A.map (·.add k)) x (c - k)) W := by
  have e := run_slice_lh (P := Tryz.prog) (w := W) (t := 88) (a := A) (len := n) (cap := c) (by kernel_rfl) .i64 .i64 (k : Int) ((k : Int) + (x : Int)) (by omega) (by omega) (by omega)
  obtain ⟨i0, hi, hz0, hz1, hz2⟩ := info_parts Tryz.info8
  have he : Tryz.prog.elem 88 = 5 := by kernel_rfl
  rw [e, he]
  simp [sizeOf, typeInfo, hi, hz1, sliced]
  omega
/-- A text as it is read. -/
structure TextGot where
  code : Nat
  s : List UInt8
  size : Nat
def textOf (l : List UInt8) (most : Int) : TextGot :=
  if (numOf l 0 most).code = 0 then (if (l.length : Int) - ((numOf l 0 most).size : Int) < (numOf l 0 most).n then ⟨2, [], 0⟩
    else ⟨0, (l.drop (numOf l 0 most).size).take (numOf l 0 most).n.toNat, (numOf l 0 most).size + (numOf l 0 most).n.toNat⟩) else ⟨(numOf l 0 most).code, [], 0⟩
def RetText (w : World) (aE aS aR : Addr) (r : TextGot) (e : Ending) (w' : World) : Prop :=
  e = .returned (.tuple #[.string ⟨r.s.toArray⟩, .int .i64 (r.size : Int), errOf aE aS aR r.code]) ∧ ∃ m, w' = w.drewN m
theorem numOf_code (l : List UInt8) (lo hi : Int) : (numOf l lo hi).code = 0 ∨ numOf l lo hi = ⟨1, 0, 0⟩ ∨ numOf l lo hi = ⟨2, 0, 0⟩ ∨ numOf l lo hi = ⟨3, 0, 0⟩ := by
  unfold numOf
  rcases dec_code l 0 0 with h | h | h
  · rw [if_pos h]
    by_cases h2 : unzz (dec 0 0 l).z < lo ∨ hi < unzz (dec 0 0 l).z
    · rw [if_pos h2]; simp
    · rw [if_neg h2]; simp
  · rw [if_neg (by rw [h]; simp), h]; simp
  · rw [if_neg (by rw [h]; simp), h]; simp
theorem numOf_ok {l : List UInt8} {lo hi : Int} (h : (numOf l lo hi).code = 0) : lo ≤ (numOf l lo hi).n ∧ (numOf l lo hi).n ≤ hi ∧ 0 < (numOf l lo hi).size ∧ (numOf l lo hi).size ≤ l.length := by
  unfold numOf at h ⊢
  by_cases h0 : (dec 0 0 l).code = 0
  · rw [if_pos h0] at h ⊢
    by_cases h2 : unzz (dec 0 0 l).z < lo ∨ hi < unzz (dec 0 0 l).z
    · rw [if_pos h2] at h; simp at h
    · rw [if_neg h2]
      have := dec_size l 0 0 h0
      refine ⟨?_, ?_, ?_, ?_⟩
      · show lo ≤ unzz (dec 0 0 l).z; omega
      · show unzz (dec 0 0 l).z ≤ hi; omega
      · show 0 < (dec 0 0 l).size; omega
      · show (dec 0 0 l).size ≤ _; omega
  · rw [if_neg h0] at h; exact absurd h h0
theorem retText_of {w w' : World} {aE aS aR : Addr} {r : TextGot} {m : Nat} {c : Nat} {l : List UInt8} {s : Int} (hr : r = ⟨c, l, s.toNat⟩) (hs : 0 ≤ s) (v : Value) (hv : v = errOf aE aS aR c) (u : ByteArray) (hu : u = ⟨l.toArray⟩) (hw : w' = w.drewN m) :
    RetText w aE aS aR r (.returned (.tuple #[.string u, .int .i64 s, v])) w' := by
  subst hr; subst hv; subst hu
  refine ⟨?_, m, hw⟩
  show _ = Ending.returned (.tuple #[_, .int .i64 ((s.toNat : Nat) : Int), _])
  rw [Int.toNat_of_nonneg hs]

set_option maxHeartbeats 1000000 in
set_option maxRecDepth 100000 in
theorem readText_any (A : Option Addr) (n c : Nat) (l : List UInt8) (most : Int) (w : World) (B : Nat) (aE aS aR : Addr) (hn : n = l.length) (hl : n ≤ 4294967296) (hc : n ≤ c) (hs : Str w B A l) (he : Errs w aE aS aR)
    (hm : most ≤ 4294967296) :
    Calls Tryz.prog 89 #[.slice A n c, .int .i64 most] w (RetText w aE aS aR (textOf l most)) := by
  have hb := readNum_any A n c l 0 most w B aE aS aR hn hl hs he
  have hgE := he.e
  clear he
  rcases numOf_code l 0 most with h0 | h1 | h1 | h1
  · have hk := numOf_ok h0
    obtain ⟨x, hx⟩ : ∃ x : Nat, (x : Int) = (numOf l 0 most).n := ⟨(numOf l 0 most).n.toNat, by omega⟩
    obtain ⟨k, hkk⟩ : ∃ k, k = (numOf l 0 most).size := ⟨_, rfl⟩
    unfold RetNum at hb
    rw [h0, ← hx, ← hkk, show errOf aE aS aR 0 = .nilIface from rfl] at hb
    rw [← hx, ← hkk, ← hn] at hk
    have HR : Hid (textOf l most = if (n : Int) - (k : Int) < (x : Int) then ⟨2, [], 0⟩ else ⟨0, (l.drop k).take x, k + x⟩) := Lib.hid (by unfold textOf; rw [if_pos h0, ← hx, ← hkk, ← hn, Int.toNat_natCast])
    obtain ⟨_, hk2, hk3, hk4⟩ := hk
    have HB := Lib.hid hb
    have HN := Lib.hid hn
    clear hb hx hkk h0 hn
    generalize textOf l most = r at *
    by_cases h1 : (n : Int) - (k : Int) < (x : Int)
    · have HR1 : Hid (r = ⟨2, [], (0 : Int).toNat⟩) := Lib.hid (by rw [HR.out, if_pos h1]; rfl)
      have hd1 : decide ((n : Int) - (k : Int) < (x : Int)) = true := decide_eq_true h1
      clear HR
      go_enter Tryz.func89, Tryz.ntmps89
      go_wp2_with fail
      refine HB.out.mono ?_
      rintro e w' ⟨rfl, m, rfl⟩
      go_wp2_with fail
      go_quiet (fail)
      go_wp2
      go_ret3
      exact retText_of (m := _) HR1.out (by omega) _ rfl _ rfl (World.drewN_drewN ..)
    · have HR1 : Hid (r = ⟨0, (l.drop k).take x, ((k : Int) + (x : Int)).toNat⟩) := Lib.hid (by rw [HR.out, if_neg h1]; congr 1)
      have hd1 : decide ((n : Int) - (k : Int) < (x : Int)) = false := decide_eq_false h1
      clear HR
      obtain ⟨A2, hA2⟩ : ∃ A2, A2 = if c = k then A else A.map (·.add k) := ⟨_, rfl⟩
      have hsl := fun W : World => run_cut A n c k x W (by omega)
      have hs2 : Str w B A2 ((l.drop k).take x) := by rw [hA2]; exact (hs.cut' k (by have := HN.out; omega)).take x
      have hle : ((l.drop k).take x).length = x := by have := HN.out; simp; omega
      have hcv : ∀ m, (convert 88 9 (.slice A2 x (c - k))).run Tryz.prog (w.drewN m) = .ok (.string ⟨((l.drop k).take x).toArray⟩) (w.drewN m) := fun m => by
        have := run_str (w.drewN m) B A2 (c - k) _ (hs2.keep fun _ _ => rfl)
        rw [hle] at this
        exact this
      rw [← hA2] at hsl
      obtain ⟨t, ht⟩ : ∃ t : ByteArray, t = ⟨((l.drop k).take x).toArray⟩ := ⟨_, rfl⟩
      rw [← ht] at hcv
      have HT := Lib.hid ht
      clear hA2 hs hs2 hle ht
      go_enter Tryz.func89, Tryz.ntmps89
      go_wp2_with fail
      refine HB.out.mono ?_
      rintro e w' ⟨rfl, m, rfl⟩
      go_wp2
      go_ret3
      exact retText_of (m := _) HR1.out (by omega) _ rfl _ HT.out rfl
  all_goals
    unfold RetNum at hb
    have HR1 : Hid (textOf l most = ⟨(numOf l 0 most).code, [], (0 : Int).toNat⟩) := Lib.hid (by unfold textOf; rw [if_neg (by rw [h1]; simp)]; rfl)
    rw [h1] at hb HR1
    dsimp only [errOf] at hb HR1
    have HB := Lib.hid hb
    generalize textOf l most = r at *
    clear hb h1 hn
    go_enter Tryz.func89, Tryz.ntmps89
    go_wp2_with fail
    refine HB.out.mono ?_
    rintro e w' ⟨rfl, m, rfl⟩
    go_wp2
    go_ret3
    exact retText_of (m := _) HR1.out (by omega) _ rfl _ rfl rfl
end Go.Proofs.YtmpklljiddggpaaGreatDoor
