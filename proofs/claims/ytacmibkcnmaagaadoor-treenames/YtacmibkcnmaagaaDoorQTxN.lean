/-
  Names of letters a with one rune among them, as plain lists; the walks of the statements' own words. Conditions: each theorem's own premises.
-/
import Derived.Test.YtacmibkcnmaagaaDoorQTxF
import Derived.Laws.Cover4
namespace Go.Proofs.YtacmibkcnmaagaaDoor
open Go.Shelf Go.RowKit Go.Lib

theorem pcs_as : ∀ (n : Nat) (t : List UInt8), pcs (List.replicate n 97 ++ t) = List.replicate n (97, 1) ++ pcs t
  | 0, t => by simp
  | n + 1, t => by
    rw [List.replicate_succ, List.cons_append, pcs_ascii _ (by decide), pcs_as n t, List.replicate_succ]
    rfl
theorem kws_count : ∀ k ∈ kws, k.count 97 ≤ 1 := by decide
theorem kws_as {l : List UInt8} (h : 2 ≤ l.count 97) : decide (l ∈ kws) = false := decide_eq_false fun hm => by have := kws_count l hm; omega
theorem kws_a : decide ([97] ∈ kws) = false := by decide
theorem ok_a : ok1 true ((97 : Nat) : Int) = true := by decide
theorem ok_a0 : ok1 false ((97 : Nat) : Int) = true := by decide
theorem all_as (n : Nat) : (List.replicate n (97, 1)).all (fun q : Nat × Nat => ok1 true (q.1 : Int)) = true := by
  rw [List.all_eq_true]
  intro q hq
  rw [List.eq_of_mem_replicate hq]
  exact ok_a
theorem nmR_as (n : Nat) : nmR (List.replicate n (97, 1)) = true := by
  cases n with
  | zero => rfl
  | succ n =>
    rw [List.replicate_succ]
    show (ok1 false ((97 : Nat) : Int) && (List.replicate n (97, 1)).all fun q : Nat × Nat => ok1 true (q.1 : Int)) = true
    rw [ok_a0, all_as]
    rfl
theorem name_as (S : ByteArray) (n : Nat) (h : S.data.toList = List.replicate n 97) : nameB S = decide (1 ≤ n ∧ n ≤ 24) := by
  have hz : S.size = n := by have := congrArg List.length h; simpa using this
  have hp : nmR (pcs S.data.toList) = true := by
    have := pcs_as n []
    rw [List.append_nil, pcs_nil, List.append_nil] at this
    rw [h, this, nmR_as]
  have hk : kwB S = false := by
    unfold kwB
    rw [h]
    rcases (by omega : n = 0 ∨ n = 1 ∨ 2 ≤ n) with rfl | rfl | hn
    · decide
    · exact kws_a
    · exact kws_as (by simpa using hn)
  unfold nameB
  rw [hp, hk, hz]
  by_cases h1 : 1 ≤ n <;> by_cases h2 : n ≤ 24 <;> simp [h1, h2] <;> omega

theorem ofNat_toNat {n : Nat} (h : n < 256) : (UInt8.ofNat n).toNat = n := by simp; omega
theorem dec_1 (a : UInt8) (t : List UInt8) (c : Nat) (h0 : a.toNat = c) (h : c < 128) : dec ([a] ++ t) = (c, [a].length) := by
  simp only [dec, decodeN, List.getElem?_cons_zero, Option.getD_some, List.cons_append, List.nil_append, h0]
  rw [if_pos h]
  rfl
theorem dec_2 (a b : UInt8) (t : List UInt8) (c : Nat) (h0 : a.toNat = 192 + c / 64) (h1 : b.toNat = 128 + c % 64) (h : 128 ≤ c) (h' : c < 2048) : dec ([a, b] ++ t) = (c, [a, b].length) := by
  simp only [dec, decodeN, List.getElem?_cons_zero, List.getElem?_cons_succ, Option.getD_some, List.cons_append, List.nil_append, List.length_cons, List.length_nil, h0, h1]
  rw [if_neg (by omega), if_pos (by omega), if_pos (by omega)]
  exact Prod.ext (by show _ = c; omega) rfl
theorem dec_3 (a b d : UInt8) (t : List UInt8) (c : Nat) (h0 : a.toNat = 224 + c / 4096) (h1 : b.toNat = 128 + c / 64 % 64) (h2 : d.toNat = 128 + c % 64) (h : 2048 ≤ c) (h' : c < 65536) (hv : c < 55296 ∨ 57343 < c) : dec ([a, b, d] ++ t) = (c, [a, b, d].length) := by
  simp only [dec, decodeN, List.getElem?_cons_zero, List.getElem?_cons_succ, Option.getD_some, List.cons_append, List.nil_append, List.length_cons, List.length_nil, h0, h1, h2]
  rw [if_neg (by omega), if_neg (by omega), if_pos (by omega), if_pos (by omega)]
  exact Prod.ext (by show _ = c; omega) rfl
theorem dec_4 (a b d e : UInt8) (t : List UInt8) (c : Nat) (h0 : a.toNat = 240 + c / 262144) (h1 : b.toNat = 128 + c / 4096 % 64) (h2 : d.toNat = 128 + c / 64 % 64) (h3 : e.toNat = 128 + c % 64) (h : 65536 ≤ c) (h' : c ≤ 1114111) : dec ([a, b, d, e] ++ t) = (c, [a, b, d, e].length) := by
  simp only [dec, decodeN, List.getElem?_cons_zero, List.getElem?_cons_succ, Option.getD_some, List.cons_append, List.nil_append, List.length_cons, List.length_nil, h0, h1, h2, h3]
  rw [if_neg (by omega), if_neg (by omega), if_neg (by omega), if_pos (by omega), if_pos (by omega)]
  exact Prod.ext (by show _ = c; omega) rfl
theorem valid_c (c : Nat) (h1 : c ≤ 1114111) (h2 : c < 55296 ∨ 57343 < c) : Utf8.valid (c : Int) = true := by
  unfold Utf8.valid
  rw [Bool.or_eq_true, Bool.and_eq_true, Bool.and_eq_true]
  simp only [decide_eq_true_eq]
  omega
theorem encode_eq (c : Nat) (hv : Utf8.valid (c : Int) = true) : Utf8.encode (c : Int) = if c < 128 then ⟨#[UInt8.ofNat c]⟩ else if c < 2048 then ⟨#[UInt8.ofNat (192 + c / 64), UInt8.ofNat (128 + c % 64)]⟩ else if c < 65536 then ⟨#[UInt8.ofNat (224 + c / 4096), UInt8.ofNat (128 + c / 64 % 64), UInt8.ofNat (128 + c % 64)]⟩ else ⟨#[UInt8.ofNat (240 + c / 262144), UInt8.ofNat (128 + c / 4096 % 64), UInt8.ofNat (128 + c / 64 % 64), UInt8.ofNat (128 + c % 64)]⟩ := by
  simp only [Utf8.encode, hv, if_true, Int.toNat_natCast]
theorem enc_ways (c : Nat) (h1 : c ≤ 1114111) (h2 : c < 55296 ∨ 57343 < c) :
    (c < 128 ∧ (Utf8.encode (c : Int)).data.toList = [UInt8.ofNat c]) ∨ (128 ≤ c ∧ c < 2048 ∧ (Utf8.encode (c : Int)).data.toList = [UInt8.ofNat (192 + c / 64), UInt8.ofNat (128 + c % 64)]) ∨
    (2048 ≤ c ∧ c < 65536 ∧ (Utf8.encode (c : Int)).data.toList = [UInt8.ofNat (224 + c / 4096), UInt8.ofNat (128 + c / 64 % 64), UInt8.ofNat (128 + c % 64)]) ∨
    (65536 ≤ c ∧ (Utf8.encode (c : Int)).data.toList = [UInt8.ofNat (240 + c / 262144), UInt8.ofNat (128 + c / 4096 % 64), UInt8.ofNat (128 + c / 64 % 64), UInt8.ofNat (128 + c % 64)]) := by
  have e := encode_eq c (valid_c c h1 h2)
  by_cases a1 : c < 128
  · exact .inl ⟨a1, by rw [if_pos a1] at e; rw [e]⟩
  · by_cases a2 : c < 2048
    · exact .inr (.inl ⟨by omega, a2, by rw [if_neg a1, if_pos a2] at e; rw [e]⟩)
    · by_cases a3 : c < 65536
      · exact .inr (.inr (.inl ⟨by omega, a3, by rw [if_neg a1, if_neg a2, if_pos a3] at e; rw [e]⟩))
      · exact .inr (.inr (.inr ⟨by omega, by rw [if_neg a1, if_neg a2, if_neg a3] at e; rw [e]⟩))
theorem pcs_enc (r : Int) (h0 : 0 ≤ r) (h1 : r ≤ 1114111) (h2 : r < 55296 ∨ 57343 < r) (t : List UInt8) : ∃ m, pcs ((Utf8.encode r).data.toList ++ t) = (r.toNat, m) :: pcs t := by
  obtain ⟨c, rfl⟩ : ∃ c : Nat, r = (c : Int) := ⟨r.toNat, by omega⟩
  rw [Int.toNat_natCast]
  rcases enc_ways c (by omega) (by omega) with ⟨a, e⟩ | ⟨a, b, e⟩ | ⟨a, b, e⟩ | ⟨a, e⟩
  · exact ⟨_, by rw [e]; exact pcs_app (by simp) (dec_1 _ _ _ (ofNat_toNat (by omega)) a)⟩
  · exact ⟨_, by rw [e]; exact pcs_app (by simp) (dec_2 _ _ _ _ (ofNat_toNat (by omega)) (ofNat_toNat (by omega)) a b)⟩
  · exact ⟨_, by rw [e]; exact pcs_app (by simp) (dec_3 _ _ _ _ _ (ofNat_toNat (by omega)) (ofNat_toNat (by omega)) (ofNat_toNat (by omega)) a b (by omega))⟩
  · exact ⟨_, by rw [e]; exact pcs_app (by simp) (dec_4 _ _ _ _ _ _ (ofNat_toNat (by omega)) (ofNat_toNat (by omega)) (ofNat_toNat (by omega)) (ofNat_toNat (by omega)) a (by omega))⟩

theorem name_mid (S E : ByteArray) (n k : Nat) (r : Int) (hS : S.data.toList = List.replicate n 97) (hn : 2 ≤ n ∧ n ≤ 20) (hk : k < n) (hE : E.data.toList = (Utf8.encode r).data.toList) (h0 : 0 ≤ r) (h1 : r ≤ 1114111) (h2 : r < 55296 ∨ 57343 < r) :
    nameB (S.extract 0 k ++ E ++ S.extract k S.size) = ok1 (decide (k ≠ 0)) r := by
  have hz : S.size = n := by have := congrArg List.length hS; simpa using this
  have hl : (S.extract 0 k ++ E ++ S.extract k S.size).data.toList = List.replicate k 97 ++ ((Utf8.encode r).data.toList ++ List.replicate (n - k) 97) := by
    simp only [ByteArray.data_append, ByteArray.data_extract, Array.toList_append, Array.toList_extract, List.extract, hS, hE, hz, List.drop_replicate, List.take_replicate, List.append_assoc]
    rw [show min (k - 0) (n - 0) = k by omega, show min (n - k) (n - k) = n - k by omega]
  obtain ⟨m, hm⟩ := pcs_enc r h0 h1 h2 (List.replicate (n - k) 97)
  have hp : pcs (List.replicate k 97 ++ ((Utf8.encode r).data.toList ++ List.replicate (n - k) 97)) = List.replicate k (97, 1) ++ (r.toNat, m) :: List.replicate (n - k) (97, 1) := by
    have := pcs_as (n - k) []
    rw [List.append_nil, pcs_nil, List.append_nil] at this
    rw [pcs_as, hm, this]
  have hen : (Utf8.encode r).data.toList.length ≤ 4 := by have := encode_size_le r; simpa using this
  have hsz : (S.extract 0 k ++ E ++ S.extract k S.size).size = n + (Utf8.encode r).data.toList.length := by
    have := congrArg List.length hl
    simp at this
    simp
    omega
  have hc : 2 ≤ (List.replicate k (97 : UInt8) ++ ((Utf8.encode r).data.toList ++ List.replicate (n - k) 97)).count 97 := by
    simp [List.count_append]
    omega
  unfold nameB kwB
  rw [hl, hp, kws_as hc, hsz, decide_eq_true (show n + (Utf8.encode r).data.toList.length ≠ 0 by omega), decide_eq_true (show n + (Utf8.encode r).data.toList.length ≤ 24 by omega)]
  simp only [Bool.true_and, Bool.not_false]
  have er : ((r.toNat : Nat) : Int) = r := by omega
  cases k with
  | zero =>
    show (ok1 false ((r.toNat : Nat) : Int) && _) = _
    rw [all_as, Bool.and_true, er]
    rfl
  | succ k =>
    rw [List.replicate_succ]
    show (ok1 false ((97 : Nat) : Int) && ((List.replicate k (97, 1) ++ (r.toNat, m) :: List.replicate (n - (k + 1)) (97, 1)).all fun q => ok1 true (q.1 : Int))) = _
    rw [ok_a0, Bool.true_and, List.all_append, all_as, Bool.true_and, List.all_cons, all_as, Bool.and_true, er]
    rfl
theorem name_fby : nameB ⟨#[102, 98, 121]⟩ = false := by
  unfold nameB kwB
  show (_ && (_ && (!(decide ([102, 98, 121] ∈ kws)) && _))) = false
  rw [show decide ([102, 98, 121] ∈ kws) = true by decide]
  simp
theorem name_none : nameB ⟨#[]⟩ = false := by
  unfold nameB
  show (decide (0 ≠ 0) && _) = false
  simp

/-- The slice at A holds these texts. -/
structure Txs (w : World) (A : Option Addr) (l : List ByteArray) : Prop where
  here : ∀ k s, l[k]? = some s → ∃ ad, A = some ad ∧ w.cell? (ad.add k) = some (.string s)

/-- It says whether a text is among texts. -/
def RetAm (w : World) (l : List ByteArray) (s : ByteArray) (e : Ending) (w' : World) : Prop := w = w' ∧ ((s.data.toList ∈ l.map (·.data.toList) ∧ ∃ v : Nat, v ≤ 1000 ∧ e = .returned (.int .i64 (v : Int))) ∨ (s.data.toList ∉ l.map (·.data.toList) ∧ e = .returned (.int .i64 (-1))))
set_option maxRecDepth 100000 in
set_option maxHeartbeats 400000 in
theorem among_any (A : Option Addr) (len cap : Nat) (l : List ByteArray) (s : ByteArray) (w : World) (hl : len = l.length) (hz : len ≤ 1000) (hA : Txs w A l) :
    Calls Tryd.prog 90 #[.slice A len cap, .string s] w (RetAm w l s) := by
  have HL := Lib.hid hl
  have HA := Lib.hid hA
  clear hl hA
  go_enter Tryd.func90, Tryd.ntmps90
  go_wp2
  go_loop [5] (fun i => ∃ k : Nat, k ≤ len ∧ i = .int .i64 (k : Int) ∧ ∀ j t, j < k → l[j]? = some t → t.data.toList ≠ s.data.toList) (fun i => len - (intOf i).toNat)
  case atStart => exact ⟨0, by omega, rfl, fun j t hj => by omega⟩
  case round =>
    obtain ⟨k, hk, rfl, hno⟩ := hrel
    have HNo := Lib.hid hno
    clear hno
    by_cases hp : k < len
    · have hkl : k < l.length := by have := HL.out; omega
      obtain ⟨ad, rfl, hc⟩ := HA.out.here k l[k] (List.getElem?_eq_getElem hkl)
      obtain ⟨t, ht⟩ : ∃ t, t = l[k] := ⟨_, rfl⟩
      rw [← ht] at hc
      have HT := Lib.hid ht
      clear ht
      by_cases he : t.data.toList = s.data.toList
      · have he' : (t.toList == s.toList) = true := by rw [ByteArray.toList_eq, ByteArray.toList_eq]; exact beq_iff_eq.2 he
        have HE : Hid (s.data.toList ∈ l.map (·.data.toList)) := Lib.hid (List.mem_map.2 ⟨t, by rw [HT.out]; exact List.getElem_mem hkl, he⟩)
        clear he
        go_wp2
        go_ret
        exact ⟨rfl, .inl ⟨HE.out, k, by omega, rfl⟩⟩
      · have he' : (t.toList == s.toList) = false := by rw [ByteArray.toList_eq, ByteArray.toList_eq]; exact beq_eq_false_iff_ne.2 he
        have HE := Lib.hid he
        clear he
        go_wp2
        go_round
        case rel =>
          refine ⟨k + 1, by omega, by go_num, fun j u hj hu => ?_⟩
          rcases (by omega : j < k ∨ j = k) with h | rfl
          · exact HNo.out j u h hu
          · rw [List.getElem?_eq_getElem hkl] at hu
            cases hu
            rw [← HT.out]
            exact HE.out
        case measure => simp [intOf]; omega
    · have HE : Hid (s.data.toList ∉ l.map (·.data.toList)) := Lib.hid (by
        intro hm
        obtain ⟨t, ht, he⟩ := List.mem_map.1 hm
        obtain ⟨j, hj⟩ := List.mem_iff_getElem?.1 ht
        exact HNo.out j t (by have := (List.getElem?_eq_some_iff.1 hj).1; have := HL.out; omega) hj he)
      go_wp2
      go_ret
      exact ⟨rfl, .inr ⟨HE.out, rfl⟩⟩
/-- The words, as they lie. -/
def wordC : List ByteArray := [⟨#[97, 110, 100]⟩, ⟨#[98, 111, 111, 108]⟩, ⟨#[101, 108, 115, 101]⟩, ⟨#[101, 118, 101, 114, 121]⟩, ⟨#[102, 97, 108, 115, 101]⟩, ⟨#[102, 98, 121]⟩, ⟨#[105, 102]⟩, ⟨#[105, 110, 116]⟩, ⟨#[108, 101, 116]⟩, ⟨#[109, 101, 114, 103, 101]⟩, ⟨#[109, 111, 100]⟩, ⟨#[110, 111, 100, 101]⟩, ⟨#[110, 111, 116]⟩, ⟨#[111, 114]⟩, ⟨#[112, 114, 101]⟩, ⟨#[114, 101, 116, 117, 114, 110, 115]⟩, ⟨#[116, 101, 108]⟩, ⟨#[116, 104, 101, 110]⟩, ⟨#[116, 114, 117, 101]⟩, ⟨#[118, 97, 114]⟩, ⟨#[119, 104, 101, 110]⟩, ⟨#[120, 111, 114]⟩]
theorem wordC_kws : wordC.map (·.data.toList) = kws := by decide
set_option maxRecDepth 100000 in
set_option maxHeartbeats 400000 in
theorem words_any (w : World) : Calls Tryd.prog 91 #[] w fun e w' => e = .returned (.slice (some ⟨w.heap.size, 0, none⟩) 22 22) ∧ w' = w.alloc (.cells (wordC.map Value.string).toArray 9) := by
  go_enter Tryd.func91, Tryd.ntmps91
  go_wp2
  go_ret
  exact ⟨rfl, rfl⟩
set_option maxRecDepth 100000 in
set_option maxHeartbeats 400000 in
theorem is_any (s : ByteArray) (w : World) : Calls Tryd.prog 42 #[.string s] w (RetN w (kwB s)) := by
  have HW := Lib.hid (words_any w)
  have hT : Txs (w.alloc (.cells (wordC.map Value.string).toArray 9)) (some ⟨w.heap.size, 0, none⟩) wordC := ⟨fun k t ht => ⟨_, rfl, by
    rw [lit_add]
    unfold World.cell?
    show (match (w.alloc (.cells (wordC.map Value.string).toArray 9)).heap[w.heap.size]? with | some (.cells c _ _) => c[k]? | _ => none) = _
    rw [World.alloc_heap_new]
    simp [ht]⟩⟩
  have HA := Lib.hid (among_any _ 22 22 wordC s _ rfl (by decide) hT)
  have HB : Hid (Below w.heap.size w (w.alloc (.cells (wordC.map Value.string).toArray 9))) := Lib.hid ((Below.refl _ w).alloc (Nat.le_refl _) _)
  unfold RetAm at HA
  rw [wordC_kws] at HA
  generalize w.alloc (.cells (wordC.map Value.string).toArray 9) = W1 at *
  clear hT
  go_enter Tryd.func42, Tryd.ntmps42
  go_wp2_with fail
  refine HW.out.mono ?_
  rintro e w1 ⟨rfl, rfl⟩
  go_wp2_with fail
  refine HA.out.mono ?_
  rintro e w2 ⟨rfl, ⟨h1, v, hv, rfl⟩ | ⟨h1, rfl⟩⟩
  · have HK : Hid (kwB s = true) := Lib.hid (decide_eq_true h1)
    clear h1
    go_wp2
    go_ret
    exact ⟨by rw [HK.out]; exact ret_bool (by simp), HB.out⟩
  · have HK : Hid (kwB s = false) := Lib.hid (decide_eq_false h1)
    clear h1
    go_wp2
    go_ret
    exact ⟨by rw [HK.out]; rfl, HB.out⟩
end Go.Proofs.YtacmibkcnmaagaaDoor
