/-
  Plain: changes as bytes, bytes in sectors, and what a store does to its disk: whole or not at all. Conditions: none.
-/
import Derived.Test.YtmpklljiddggpaaGreatDoorQJoA
import Derived.Test.YtmpklljiddggpaaGreatDoorQNum
import Derived.Test.YtmpklljiddggpaaGreatDoorQDkC
namespace Go.Proofs.YtmpklljiddggpaaGreatDoor
open Go.RowKit Go.Maps

/-! ### bytes -/
theorem numOf_enc (n lo hi : Int) (rest : List UInt8) (h1 : -9223372036854775808 ≤ n) (h2 : n ≤ 9223372036854775807) (hl : lo ≤ n) (hh : n ≤ hi) : numOf (enc n ++ rest) lo hi = ⟨0, n, (enc n).length⟩ := by
  unfold numOf
  rw [dec_enc n h1 h2]
  simp only [unzz_zz]
  rw [if_pos trivial, if_neg (by omega)]
/-- A text on the wire. -/
def encT (s : List UInt8) : List UInt8 := enc (s.length : Int) ++ s
theorem textOf_enc (s rest : List UInt8) (most : Int) (h : (s.length : Int) ≤ most) (hm : most ≤ 4294967296) : textOf (encT s ++ rest) most = ⟨0, s, (encT s).length⟩ := by
  unfold textOf encT
  rw [List.append_assoc, numOf_enc _ _ _ _ (by omega) (by omega) (by omega) h]
  simp only
  rw [if_pos trivial, if_neg (by simp; omega)]
  simp
/-- A change ahead of its value. -/
def frontC (c : Chg) : List UInt8 := if c.gone then encT c.key ++ enc 1 else encT c.key ++ enc 0 ++ enc (c.val.length : Int)
def encC1 (c : Chg) : List UInt8 := frontC c ++ c.val
/-- Changes as the sectors have them. -/
def encL : List Chg → List UInt8
  | [] => []
  | c :: r => encC1 c ++ encL r
theorem encL_append (a b : List Chg) : encL (a ++ b) = encL a ++ encL b := by
  induction a with
  | nil => rfl
  | cons x r ih => simp [encL, ih]
/-- A change that a store may write. -/
structure OkC (c : Chg) : Prop where
  k1 : 1 ≤ c.key.length
  k2 : c.key.length ≤ 40
  v : c.val.length ≤ 32768
  g : c.gone = true → c.val = []
theorem OkC.strip {c : Chg} (h1 : 1 ≤ c.key.length) (h2 : c.key.length ≤ 40) (h3 : c.val.length ≤ 32768) : OkC (strip c) := by
  unfold Go.Proofs.YtmpklljiddggpaaGreatDoor.strip
  split
  · exact ⟨h1, h2, by simp, fun _ => rfl⟩
  · exact ⟨h1, h2, h3, fun h => absurd h ‹_›⟩
theorem setl_mem {l : List Chg} {x : Chg} (h : x ∈ setl l) : ∃ c ∈ l, x = strip c := by
  have h1 := getC_mem (setl_rises l) h
  rw [setl_get] at h1
  cases hl : lastC x.key l with
  | none => rw [hl] at h1; cases h1
  | some c =>
    rw [hl] at h1
    exact ⟨c, (lastC_some hl).1, by simpa using h1.symm⟩
theorem front_length {c : Chg} (h : OkC c) : (frontC c).length ≤ c.key.length + 30 ∧ 2 ≤ (frontC c).length := by
  have a1 := enc_length (c.key.length : Int)
  have a2 := enc_length 0
  have a3 := enc_length (c.val.length : Int)
  have a4 := enc_length 1
  have b1 := enc_pos (c.key.length : Int)
  have b2 := h.k1
  unfold frontC encT
  split <;> simp <;> omega

/-! ### sectors -/
/-- Bytes in parts of 128. -/
def chunks (b : List UInt8) : List (List UInt8) := (List.range ((b.length + 127) / 128)).map fun i => (b.drop (i * 128)).take 128
theorem chunks_length (b : List UInt8) : (chunks b).length = (b.length + 127) / 128 := by simp [chunks]
theorem chunks_at (b : List UInt8) (i : Nat) (h : i < (b.length + 127) / 128) : (chunks b)[i]? = some ((b.drop (i * 128)).take 128) := by simp [chunks, h]
theorem chunks_small (b : List UInt8) : ∀ x ∈ chunks b, x.length ≤ 128 := by
  intro x hx
  obtain ⟨i, _, rfl⟩ := List.mem_map.1 hx
  simp
  omega
theorem chunks_flat (b : List UInt8) : (chunks b).flatten = b := by
  suffices ∀ (n : Nat) (b : List UInt8), (b.length + 127) / 128 = n → ((List.range n).map fun i => (b.drop (i * 128)).take 128).flatten = b from this _ b rfl
  intro n
  induction n with
  | zero =>
    intro b h
    have : b.length = 0 := by omega
    rw [List.eq_nil_of_length_eq_zero this]
    rfl
  | succ n ih =>
    intro b h
    rw [List.range_succ_eq_map, List.map_cons, List.flatten_cons, List.map_map]
    have := ih (b.drop 128) (by simp; omega)
    have e : ((List.range n).map ((fun i => (b.drop (i * 128)).take 128) ∘ Nat.succ)) = (List.range n).map fun i => ((b.drop 128).drop (i * 128)).take 128 := by
      refine List.map_congr_left fun i _ => ?_
      show (b.drop ((i + 1) * 128)).take 128 = _
      rw [List.drop_drop]
      congr 2
      omega
    rw [e, this]
    simp
/-- The sectors that changes take. -/
def secs (l : List Chg) : Nat := ((encL l).length + 127) / 128

/-- The head: which sectors count. -/
structure Hd where
  age : Int
  half : Nat
  used : Nat
def encH (h : Hd) : List UInt8 := enc h.age ++ enc (h.half : Int) ++ enc (h.used : Int)
theorem encH_length (h : Hd) : (encH h).length ≤ 30 := by
  have a1 := enc_length h.age
  have a2 := enc_length (h.half : Int)
  have a3 := enc_length (h.used : Int)
  simp [encH]
  omega
/-- The sectors of a half. -/
def roomN (n : Nat) : Nat := (n - 1) / 2
def Hd.first (h : Hd) (n : Nat) : Nat := 1 + h.half * roomN n
/-- The contents of n sectors from a on. -/
def catF (look : Nat → Sec) (a : Nat) : Nat → List UInt8
  | 0 => []
  | n + 1 => catF look a n ++ secS (look (a + n))
theorem catF_congr {f g : Nat → Sec} {a : Nat} : ∀ {n : Nat}, (∀ j, a ≤ j → j < a + n → f j = g j) → catF f a n = catF g a n
  | 0, _ => rfl
  | n + 1, h => by
    rw [catF, catF, catF_congr fun j h1 h2 => h j h1 (by omega), h (a + n) (by omega) (by omega)]
theorem catF_add (f : Nat → Sec) (a m : Nat) : ∀ n, catF f a (m + n) = catF f a m ++ catF f (a + m) n
  | 0 => by simp [catF]
  | n + 1 => by
    rw [← Nat.add_assoc, catF, catF_add f a m n, catF, List.append_assoc, Nat.add_assoc]
theorem catF_parts (f : Nat → Sec) : ∀ (ps : List (List UInt8)) (a : Nat), (∀ i x, ps[i]? = some x → f (a + i) = some x) → catF f a ps.length = ps.flatten := by
  intro ps
  suffices ∀ n (ps : List (List UInt8)), ps.length = n → ∀ a, (∀ i x, ps[i]? = some x → f (a + i) = some x) → catF f a ps.length = ps.flatten from this _ ps rfl
  intro n
  induction n with
  | zero => intro ps hl a h; obtain rfl := List.eq_nil_of_length_eq_zero hl; rfl
  | succ n ih =>
    intro ps hl a h
    obtain ⟨q, x, rfl⟩ : ∃ q x, ps = q ++ [x] := ⟨ps.dropLast, ps.getLast (by rintro rfl; simp at hl), (List.dropLast_concat_getLast _).symm⟩
    have hq : q.length = n := by simpa using hl
    have := ih q hq a fun i y hy => h i y (by rw [List.getElem?_append_left (List.getElem?_eq_some_iff.1 hy).1]; exact hy)
    rw [List.length_append, List.length_singleton, catF, this, h q.length x (by simp)]
    simp [secS]

/-- The disk has this head, and these changes count. -/
structure HasF (look : Nat → Sec) (n : Nat) (h : Hd) (L : List Chg) : Prop where
  hd : (h = ⟨0, 0, 0⟩ ∧ look 0 = none) ∨ look 0 = some (encH h)
  half : h.half ≤ 1
  used : h.used ≤ roomN n
  age : 0 ≤ h.age
  cat : catF look (h.first n) h.used = encL L
  ok : ∀ c ∈ L, OkC c
theorem HasF.congr {f g : Nat → Sec} {n : Nat} {h : Hd} {L : List Chg} (H : HasF f n h L) (e : ∀ j, j = 0 ∨ (h.first n ≤ j ∧ j < h.first n + h.used) → g j = f j) : HasF g n h L :=
  ⟨by rw [e 0 (.inl rfl)]; exact H.hd, H.half, H.used, H.age, by rw [← H.cat]; exact catF_congr fun j h1 h2 => e j (.inr ⟨h1, h2⟩), H.ok⟩

/-! ### what a store does to its disk -/
def dWrite (s : DS) (i : Nat) (b : List UInt8) : Bool × DS :=
  if powN s.armed s.down then (false, { s with armed := powA s.armed, down := true }) else (true, { s with pend := insP (i : Int) b s.pend, calls := s.calls + 1, armed := powA s.armed, down := false })
def dFlush (s : DS) : Bool × DS := if powN s.armed s.down then (false, { s with armed := powA s.armed, down := true }) else (true, flushD s)
def dThen (x : Bool × DS) (f : DS → Bool × DS) : Bool × DS := if x.1 then f x.2 else x
/-- Parts, sector by sector, till the power goes. -/
def dParts (s : DS) (i : Nat) : List (List UInt8) → Bool × DS
  | [] => (true, s)
  | p :: r => dThen (dWrite s i p) fun s' => dParts s' (i + 1) r
theorem dThen_assoc (x : Bool × DS) (f g : DS → Bool × DS) : dThen (dThen x f) g = dThen x fun s => dThen (f s) g := by
  unfold dThen
  rcases x with ⟨b, s⟩
  cases b <;> simp
theorem dParts_snoc (p : List UInt8) : ∀ (ps : List (List UInt8)) (s : DS) (i : Nat), dParts s i (ps ++ [p]) = dThen (dParts s i ps) fun s' => dWrite s' (i + ps.length) p
  | [], s, i => by
    show dThen (dWrite s i p) (fun s' => (true, s')) = dWrite s i p
    unfold dThen
    split
    · rename_i h
      exact Prod.ext h.symm rfl
    · rfl
  | q :: r, s, i => by
    show dThen (dWrite s i q) (fun s' => dParts s' (i + 1) (r ++ [p])) = dThen (dThen (dWrite s i q) fun s' => dParts s' (i + 1) r) _
    rw [dThen_assoc]
    congr 1
    funext s'
    rw [dParts_snoc p r s' (i + 1), List.length_cons, show i + 1 + r.length = i + (r.length + 1) by omega]
/-- Parts, a flush, the head, a flush. -/
def dStore (s : DS) (i : Nat) (ps : List (List UInt8)) (hd : List UInt8) : Bool × DS := dThen (dThen (dThen (dParts s i ps) dFlush) fun s' => dWrite s' 0 hd) dFlush

/-- What is kept of a sector. -/
def lookK (s : DS) (i : Nat) : Sec := s.kept.getD i none
theorem lookD_rest {s : DS} (h : s.pend = []) : lookD s = lookK s := by
  funext i
  unfold lookD lookK
  rw [h]
  rfl
theorem crashK_get {n : Nat} : ∀ {p : Pend} {zs : List Int} {K : List Sec}, OkP n p → K.length = n → ∀ i : Nat, (crashK K p zs).getD i none = K.getD i none ∨ (crashK K p zs).getD i none = match getP (i : Int) p with | some b => some b | none => K.getD i none
  | [], _, _, _, _ => fun i => .inl rfl
  | x :: r, zs, K, hp, hK => fun i => by
    have hx := hp.2 x (List.mem_cons_self ..)
    have hr := (List.pairwise_cons.1 hp.1).1
    unfold crashK
    obtain ⟨j, hj⟩ : ∃ j : Nat, x.1 = (j : Int) := ⟨x.1.toNat, by omega⟩
    have hjt : x.1.toNat = j := by omega
    cases pk zs
    · simp only [Bool.false_eq_true, if_false]
      rcases crashK_get (zs := zs.tail) (K := K) hp.tail hK i with h | h
      · exact .inl h
      · by_cases e : x.1 = (i : Int)
        · rw [getP_none (fun y hy => by have := hr y hy; omega)] at h
          exact .inl h
        · right
          rw [h]
          simp only [getP, if_neg e]
    · simp only [if_true]
      have hl : (K.set x.1.toNat (some x.2)).length = n := by simpa using hK
      have hset : (K.set x.1.toNat (some x.2)).getD i none = if j = i then some x.2 else K.getD i none := by rw [hjt]; exact sec_getD (by omega)
      rcases crashK_get (zs := zs.tail) hp.tail hl i with h | h
      · rw [h, hset]
        by_cases e : j = i
        · right
          rw [if_pos e]
          simp only [getP, if_pos (show x.1 = (i : Int) by omega)]
        · left
          rw [if_neg e]
      · by_cases e : j = i
        · right
          rw [getP_none (fun y hy => by have := hr y hy; omega), hset, if_pos e] at h
          rw [h]
          simp only [getP, if_pos (show x.1 = (i : Int) by omega)]
        · right
          rw [h, hset, if_neg e]
          simp only [getP, if_neg (show ¬ x.1 = (i : Int) by omega)]

/-- Parts are pending, k of them from sector i on; nothing else. -/
structure Pends (s0 s : DS) (i : Nat) (ps : List (List UInt8)) (k : Nat) : Prop where
  kept : s.kept = s0.kept
  ok : OkP s0.kept.length s.pend
  get : ∀ j : Nat, getP (j : Int) s.pend = if i ≤ j ∧ j < i + k then ps[j - i]? else none
  calls : s.calls = s0.calls + k
  low : powA s0.armed ≤ s0.armed
theorem powA_le (a : Int) : powA a ≤ a := by unfold powA; split <;> omega
theorem pends_parts {s0 : DS} {i : Nat} {ps : List (List UInt8)} (hp : s0.pend = []) (hd : s0.down = false) (hi : i + ps.length ≤ s0.kept.length) (hs : ∀ x ∈ ps, x.length ≤ 128) :
    ∀ k, k ≤ ps.length → ∃ q, q ≤ k ∧ Pends s0 (dParts s0 i (ps.take k)).2 i ps q ∧ ((dParts s0 i (ps.take k)).1 = true → q = k ∧ (dParts s0 i (ps.take k)).2.down = false) ∧ ((dParts s0 i (ps.take k)).1 = false → (dParts s0 i (ps.take k)).2.down = true)
  | 0, _ => ⟨0, Nat.le_refl _, ⟨rfl, by rw [List.take_zero]; show OkP _ s0.pend; rw [hp]; exact OkP.nil _, fun j => by rw [List.take_zero]; show getP _ s0.pend = _; rw [hp, if_neg (by omega)]; rfl, by simp [dParts], powA_le _⟩, fun _ => ⟨rfl, by simpa [dParts] using hd⟩, fun h => by simp [dParts] at h⟩
  | k + 1, hk => by
    obtain ⟨q, hq, hP, ht, hf⟩ := pends_parts hp hd hi hs k (by omega)
    have hlt : k < ps.length := by omega
    rw [List.take_succ_eq_append_getElem hlt, dParts_snoc]
    cases hb : (dParts s0 i (ps.take k)).1
    · have : ∀ f, dThen (dParts s0 i (ps.take k)) f = dParts s0 i (ps.take k) := fun f => by unfold dThen; rw [hb]; rfl
      rw [this]
      exact ⟨q, by omega, hP, (fun h => by rw [hb] at h; cases h), hf⟩
    · have : ∀ f, dThen (dParts s0 i (ps.take k)) f = f (dParts s0 i (ps.take k)).2 := fun f => by unfold dThen; rw [hb]; rfl
      rw [this, List.length_take, Nat.min_eq_left (by omega)]
      obtain ⟨rfl, hdn⟩ := ht hb
      generalize (dParts s0 i (ps.take q)).2 = s at *
      unfold dWrite
      split
      · exact ⟨q, by omega, ⟨hP.kept, hP.ok, hP.get, hP.calls, powA_le _⟩, (fun h => by simp at h), fun _ => rfl⟩
      · have hx := hs ps[q] (List.getElem_mem _)
        refine ⟨q + 1, Nat.le_refl _, ⟨hP.kept, OkP.ins (by omega) (by omega) hx hP.ok, fun j => ?_, by simp [hP.calls]; omega, powA_le _⟩, fun _ => ⟨rfl, rfl⟩, fun h => by simp at h⟩
        show getP (j : Int) (insP ((i + q : Nat) : Int) ps[q] s.pend) = _
        rw [getP_ins hP.ok.1, hP.get]
        by_cases e : i + q = j
        · subst e
          rw [if_pos (by omega), if_pos (by omega), show i + q - i = q by omega, List.getElem?_eq_getElem hlt]
        · rw [if_neg (by omega)]
          by_cases e2 : i ≤ j ∧ j < i + q
          · rw [if_pos e2, if_pos (by omega)]
          · rw [if_neg e2, if_neg (by omega)]

/-- What is looked up behind parts and a head. -/
def lookN (s : DS) (i : Nat) (ps : List (List UInt8)) (hd : List UInt8) (j : Nat) : Sec := if j = 0 then some hd else if i ≤ j ∧ j < i + ps.length then ps[j - i]? else lookK s j

/-- How a store's writing ends. -/
structure Stored (s0 : DS) (i : Nat) (ps : List (List UInt8)) (hd : List UInt8) (x : Bool × DS) : Prop where
  len : x.2.kept.length = s0.kept.length
  calls : s0.calls ≤ x.2.calls ∧ x.2.calls ≤ s0.calls + ps.length + 3
  yes : x.1 = true → x.2.pend = [] ∧ x.2.down = false ∧ s0.calls + 3 ≤ x.2.calls ∧ ∀ j, j < s0.kept.length → lookK x.2 j = lookN s0 i ps hd j
  no : x.1 = false → x.2.down = true ∧ OkP s0.kept.length x.2.pend ∧ ((∀ zs, ∀ j, j = 0 ∨ ¬ (i ≤ j ∧ j < i + ps.length) → (crashK x.2.kept x.2.pend zs).getD j none = lookK s0 j) ∨
    (s0.calls + 2 ≤ x.2.calls ∧ ∀ zs, ((crashK x.2.kept x.2.pend zs).getD 0 none = lookK s0 0 ∨ (crashK x.2.kept x.2.pend zs).getD 0 none = some hd) ∧ ∀ j, 0 < j → j < s0.kept.length → (crashK x.2.kept x.2.pend zs).getD j none = lookN s0 i ps hd j))
theorem getD_out {K : List Sec} {j : Nat} (h : K.length ≤ j) : K.getD j none = none := by simp [List.getD, List.getElem?_eq_none h]
theorem flush_look {s : DS} {j : Nat} (h : j < s.kept.length) : (flushK s).getD j none = lookD s j := by
  simp [flushK, List.getD, h]
theorem stored {s0 : DS} {i : Nat} {ps : List (List UInt8)} {hd : List UInt8} (hp : s0.pend = []) (hd0 : s0.down = false) (h0 : 0 < i) (hi : i + ps.length ≤ s0.kept.length) (hn : 1 ≤ s0.kept.length) (hs : ∀ x ∈ ps, x.length ≤ 128) (hh : hd.length ≤ 128) :
    Stored s0 i ps hd (dStore s0 i ps hd) := by
  obtain ⟨q, hq, hP, ht, hf⟩ := pends_parts hp hd0 hi hs ps.length (Nat.le_refl _)
  rw [List.take_length] at hP ht hf
  unfold dStore
  have early : ∀ s : DS, Pends s0 s i ps q → s.down = true → Stored s0 i ps hd (false, s) := fun s hP hdn =>
    ⟨by show s.kept.length = _; rw [hP.kept], ⟨by show s0.calls ≤ s.calls; rw [hP.calls]; omega, by show s.calls ≤ _; rw [hP.calls]; omega⟩, (fun h => by cases h), fun _ => ⟨hdn, hP.ok, .inl fun zs j hj => by
      show (crashK s.kept s.pend zs).getD j none = _
      have hg := hP.get j
      rw [if_neg (by omega)] at hg
      rcases crashK_get (zs := zs) (K := s.kept) hP.ok (by rw [hP.kept]) j with h | h
      · rw [h, hP.kept]; rfl
      · rw [h, hg, hP.kept]; rfl⟩⟩
  cases hb : (dParts s0 i ps).1
  · have e : ∀ f, dThen (dParts s0 i ps) f = dParts s0 i ps := fun f => by unfold dThen; rw [hb]; rfl
    rw [e]
    have e2 : ∀ f, dThen (dParts s0 i ps) f = dParts s0 i ps := e
    rw [e2, e2]
    have := early _ hP (hf hb)
    rw [show dParts s0 i ps = (false, (dParts s0 i ps).2) from Prod.ext hb rfl]
    exact this
  · obtain ⟨rfl, hdn⟩ := ht hb
    have e : ∀ f, dThen (dParts s0 i ps) f = f (dParts s0 i ps).2 := fun f => by unfold dThen; rw [hb]; rfl
    rw [e]
    generalize (dParts s0 i ps).2 = s at *
    rw [show dFlush s = if powN s.armed s.down then (false, { s with armed := powA s.armed, down := true }) else (true, flushD s) from rfl]
    split
    · exact early _ ⟨hP.kept, hP.ok, hP.get, hP.calls, powA_le _⟩ rfl
    · have hfl : ∀ j, j < s0.kept.length → (flushK s).getD j none = if i ≤ j ∧ j < i + ps.length then ps[j - i]? else lookK s0 j := fun j hj => by
        rw [flush_look (by rw [hP.kept]; exact hj)]
        unfold lookD
        rw [hP.get]
        by_cases hc : i ≤ j ∧ j < i + ps.length
        · rw [if_pos hc, if_pos hc]
          have : ∃ b, ps[j - i]? = some b := ⟨_, List.getElem?_eq_getElem (by omega)⟩
          obtain ⟨b, hb⟩ := this
          rw [hb]
        · rw [if_neg hc, if_neg hc, hP.kept]
          rfl
      have hlen : (flushK s).length = s0.kept.length := by simp [flushK, hP.kept]
      show Stored s0 i ps hd (dThen (dWrite (flushD s) 0 hd) dFlush)
      rw [show dWrite (flushD s) 0 hd = if powN (flushD s).armed (flushD s).down then (false, { flushD s with armed := powA (flushD s).armed, down := true }) else (true, { flushD s with pend := insP ((0 : Nat) : Int) hd [], calls := s.calls + 1 + 1, armed := powA (flushD s).armed, down := false }) from rfl]
      split
      · refine ⟨hlen, ⟨by show s0.calls ≤ s.calls + 1; rw [hP.calls]; omega, by show s.calls + 1 ≤ _; rw [hP.calls]; omega⟩, (fun h => by cases h), fun _ => ⟨rfl, OkP.nil _, ?_⟩⟩
        by_cases hz : ps.length = 0
        · refine .inl fun zs j hj => ?_
          show (flushK s).getD j none = _
          by_cases hjn : j < s0.kept.length
          · rw [hfl j hjn, if_neg (by omega)]
          · unfold lookK
            rw [getD_out (by omega), getD_out (by omega)]
        · refine .inr ⟨by show s0.calls + 2 ≤ s.calls + 1; rw [hP.calls]; omega, fun zs => ⟨.inl ?_, fun j h1 h2 => ?_⟩⟩
          · show (flushK s).getD 0 none = _
            rw [hfl 0 (by omega), if_neg (by omega)]
          · show (flushK s).getD j none = _
            rw [hfl j h2]
            unfold lookN
            rw [if_neg (c := j = 0) (by omega)]
      · rw [show ∀ y : DS, dThen (true, y) dFlush = dFlush y from fun y => rfl]
        unfold dFlush
        have hpend : ({ flushD s with pend := insP ((0 : Nat) : Int) hd [], calls := s.calls + 1 + 1, armed := powA (flushD s).armed, down := false } : DS).pend = [(0, hd)] := rfl
        have hok : OkP s0.kept.length [((0 : Int), hd)] := OkP.ins (p := []) (by omega) (by omega) hh (OkP.nil _)
        split
        · refine ⟨hlen, ⟨by show s0.calls ≤ s.calls + 1 + 1; rw [hP.calls]; omega, by show s.calls + 1 + 1 ≤ _; rw [hP.calls]; omega⟩, (fun h => by cases h), fun _ => ⟨rfl, hok, .inr ⟨by show s0.calls + 2 ≤ s.calls + 1 + 1; rw [hP.calls]; omega, fun zs => ⟨?_, fun j h1 h2 => ?_⟩⟩⟩⟩
          · show (crashK (flushK s) [(0, hd)] zs).getD 0 none = _ ∨ (crashK (flushK s) [(0, hd)] zs).getD 0 none = _
            rcases crashK_get (zs := zs) (K := flushK s) hok hlen 0 with h | h
            · left
              rw [h, hfl 0 (by omega), if_neg (by omega)]
            · right
              rw [show (crashK (flushK s) [(0, hd)] zs).getD 0 none = some hd from h]
          · show (crashK (flushK s) [(0, hd)] zs).getD j none = _
            have hg : getP (j : Int) [((0 : Int), hd)] = none := by simp only [getP]; rw [if_neg (by omega)]
            have : (crashK (flushK s) [(0, hd)] zs).getD j none = (flushK s).getD j none := by
              rcases crashK_get (zs := zs) (K := flushK s) hok hlen j with h | h
              · exact h
              · rw [h, hg]
            rw [this, hfl j h2]
            unfold lookN
            rw [if_neg (c := j = 0) (by omega)]
        · have hl2 : (flushK { flushD s with pend := insP ((0 : Nat) : Int) hd [], calls := s.calls + 1 + 1, armed := powA (flushD s).armed, down := false }).length = s0.kept.length := by
            simp only [flushK, List.length_map, List.length_range]
            exact hlen
          refine ⟨hl2, ⟨by show s0.calls ≤ s.calls + 1 + 1 + 1; rw [hP.calls]; omega, by show s.calls + 1 + 1 + 1 ≤ _; rw [hP.calls]; omega⟩, fun _ => ⟨rfl, rfl, by show s0.calls + 3 ≤ s.calls + 1 + 1 + 1; rw [hP.calls]; omega, fun j hj => ?_⟩, fun h => by cases h⟩
          show (flushK _).getD j none = _
          rw [flush_look (by show j < (flushK s).length; omega)]
          unfold lookD lookN
          show (match getP (j : Int) [((0 : Int), hd)] with | some b => some b | none => (flushK s).getD j none) = _
          by_cases h0' : j = 0
          · subst h0'
            rfl
          · have hg : getP (j : Int) [((0 : Int), hd)] = none := by simp only [getP]; rw [if_neg (by omega)]
            rw [hg, if_neg h0']
            exact hfl j hj
end Go.Proofs.YtmpklljiddggpaaGreatDoor

/-
  Plain: a store at rest; what Commit and Compact do to it. Conditions: none.
-/
namespace Go.Proofs.YtmpklljiddggpaaGreatDoor
open Go.RowKit Go.Maps

/-- A store at rest: its head, its records. -/
structure Inv (s : DS) (h : Hd) (r : List Chg) : Prop where
  pend : s.pend = []
  down : s.down = false
  has : ∃ L, HasF (lookK s) s.kept.length h L ∧ aft L = r
  few : r.length ≤ 256
  age : h.age ≤ s.calls
theorem aft_mem {L : List Chg} {x : Chg} (h : x ∈ aft L) : x ∈ L := by
  have h1 := List.mem_filter.1 h
  obtain ⟨c, hc, rfl⟩ := setl_mem h1.1
  have : c.gone = false := by simpa [strip_gone] using h1.2
  rwa [show strip c = c by simp [strip, this]]
theorem Inv.recs {s : DS} {h : Hd} {r : List Chg} (H : Inv s h r) : Recs r := by
  obtain ⟨L, _, rfl⟩ := H.has
  exact aft_recs L
theorem Inv.ok {s : DS} {h : Hd} {r : List Chg} (H : Inv s h r) : ∀ c ∈ r, OkC c := by
  obtain ⟨L, hL, rfl⟩ := H.has
  exact fun c hc => hL.ok c (aft_mem hc)
theorem Inv.arm {s : DS} {h : Hd} {r : List Chg} (H : Inv s h r) (a : Int) : Inv { s with armed := a } h r := ⟨H.pend, H.down, H.has, H.few, H.age⟩
theorem inv_new (n : Nat) : Inv (newD n) ⟨0, 0, 0⟩ [] :=
  ⟨rfl, rfl, ⟨[], ⟨.inl ⟨rfl, by unfold lookK newD; cases n <;> simp⟩, Nat.zero_le _, Nat.zero_le _, Int.le_refl _, rfl, by simp⟩, rfl⟩, by simp, by simp [newD]⟩

def nextH (h1 : Hd) (ch : List Chg) : Hd := ⟨h1.age + 1, h1.half, h1.used + secs ch⟩
/-- Changes written behind those that count by h1, and the head that tells so. -/
def putP (s : DS) (h1 : Hd) (ch : List Chg) : Bool × DS := dStore s (h1.first s.kept.length + h1.used) (chunks (encL ch)) (encH (nextH h1 ch))

/-- How writing ends. -/
structure Puts (s : DS) (h h' : Hd) (r r' : List Chg) (x : Bool × DS) : Prop where
  len : x.2.kept.length = s.kept.length
  calls : s.calls ≤ x.2.calls ∧ x.2.calls ≤ s.calls + s.kept.length + 3
  yes : x.1 = true → Inv x.2 h' r'
  no : x.1 = false → x.2.down = true ∧ ∀ zs, Inv (crashD x.2 zs) h r ∨ Inv (crashD x.2 zs) h' r'

theorem lookK_crash (s : DS) (zs : List Int) (j : Nat) : lookK (crashD s zs) j = (crashK s.kept s.pend zs).getD j none := rfl
theorem puts_of {s : DS} {h h1 : Hd} {r r' ch L L' : List Chg} (H : Inv s h r) (hL : HasF (lookK s) s.kept.length h L) (hLr : aft L = r) (hn : 1 ≤ s.kept.length) (hage : h1.age = h.age) (hhalf : h1.half ≤ 1)
    (hroom : h1.used + secs ch ≤ roomN s.kept.length) (hout : ∀ j, h.first s.kept.length ≤ j → j < h.first s.kept.length + h.used → ¬ (h1.first s.kept.length + h1.used ≤ j ∧ j < h1.first s.kept.length + h1.used + secs ch))
    (hnew : catF (lookK s) (h1.first s.kept.length) h1.used ++ encL ch = encL L') (hL' : ∀ c ∈ L', OkC c) (hr' : aft L' = r') (hfew : r'.length ≤ 256) :
    Puts s h (nextH h1 ch) r r' (putP s h1 ch) := by
  have hlen : (chunks (encL ch)).length = secs ch := chunks_length _
  have hfi : h1.first s.kept.length + h1.used + secs ch ≤ s.kept.length := by
    unfold Hd.first
    have : h1.half * roomN s.kept.length ≤ 1 * roomN s.kept.length := Nat.mul_le_mul_right _ hhalf
    have : 2 * roomN s.kept.length + 1 ≤ s.kept.length := by unfold roomN; omega
    omega
  have hpos : 0 < h1.first s.kept.length := by unfold Hd.first; omega
  have hposh : 0 < h.first s.kept.length := by unfold Hd.first; omega
  have hhn : h.first s.kept.length + h.used ≤ s.kept.length := by
    unfold Hd.first
    have : h.half * roomN s.kept.length ≤ 1 * roomN s.kept.length := Nat.mul_le_mul_right _ hL.half
    have := hL.used
    have : 2 * roomN s.kept.length + 1 ≤ s.kept.length := by unfold roomN; omega
    omega
  have S := stored (s0 := s) (i := h1.first s.kept.length + h1.used) (ps := chunks (encL ch)) (hd := encH (nextH h1 ch)) H.pend H.down (by omega) (by rw [hlen]; omega) hn (chunks_small _) (by have := encH_length (nextH h1 ch); omega)
  have hold : ∀ f : Nat → Sec, (∀ j, j = 0 ∨ ¬ (h1.first s.kept.length + h1.used ≤ j ∧ j < h1.first s.kept.length + h1.used + secs ch) → j < s.kept.length → f j = lookK s j) → HasF f s.kept.length h L := fun f hf =>
    hL.congr fun j hj => by
      rcases hj with rfl | hj
      · exact hf 0 (.inl rfl) (by omega)
      · exact hf j (.inr (hout j hj.1 hj.2)) (by omega)
  have hneu : ∀ f : Nat → Sec, f 0 = some (encH (nextH h1 ch)) → (∀ j, 0 < j → j < s.kept.length → f j = lookN s (h1.first s.kept.length + h1.used) (chunks (encL ch)) (encH (nextH h1 ch)) j) → HasF f s.kept.length (nextH h1 ch) L' := fun f f0 hf => by
    refine ⟨.inr f0, hhalf, hroom, by have := hL.age; show 0 ≤ h1.age + 1; omega, ?_, hL'⟩
    show catF f (h1.first s.kept.length) (h1.used + secs ch) = _
    rw [catF_add, ← hnew]
    congr 1
    · refine catF_congr fun j j1 j2 => ?_
      rw [hf j (by omega) (by omega)]
      unfold lookN
      rw [if_neg (by omega), if_neg (by omega)]
    · rw [← hlen, catF_parts f _ _ fun i x hx => ?_, chunks_flat]
      have hil : i < (chunks (encL ch)).length := (List.getElem?_eq_some_iff.1 hx).1
      rw [hf _ (by omega) (by omega)]
      unfold lookN
      rw [if_neg (by omega), if_pos (by omega), show h1.first s.kept.length + h1.used + i - (h1.first s.kept.length + h1.used) = i by omega, hx]
  refine ⟨S.len, ⟨S.calls.1, by have := S.calls.2; rw [hlen] at this; show (dStore _ _ _ _).2.calls ≤ _; omega⟩, fun hy => ?_, fun hno => ?_⟩
  · obtain ⟨y1, y2, y3, y4⟩ := S.yes hy
    refine ⟨y1, y2, ⟨L', ?_, hr'⟩, hfew, ?_⟩
    · rw [show (putP s h1 ch).2.kept.length = s.kept.length from S.len]
      refine hneu _ ?_ fun j j1 j2 => y4 j j2
      show lookK (dStore _ _ _ _).2 0 = _
      rw [y4 0 (by omega)]
      unfold lookN
      rw [if_pos rfl]
    · have := H.age
      show h1.age + 1 ≤ (dStore _ _ _ _).2.calls
      omega
  · obtain ⟨n1, n2, n3⟩ := S.no hno
    refine ⟨n1, fun zs => ?_⟩
    have hkl : (crashD (putP s h1 ch).2 zs).kept.length = s.kept.length := by
      show (crashK _ _ _).length = _
      rw [crashK_length]
      exact S.len
    rcases n3 with n3 | ⟨n3, n4⟩
    · left
      refine ⟨rfl, rfl, ⟨L, ?_, hLr⟩, H.few, ?_⟩
      · rw [hkl]
        exact hold _ fun j hj _ => n3 zs j (by rw [hlen]; exact hj)
      · have := H.age
        have := S.calls.1
        show h.age ≤ (dStore _ _ _ _).2.calls
        omega
    · obtain ⟨n5, n6⟩ := n4 zs
      rcases n5 with n5 | n5
      · left
        refine ⟨rfl, rfl, ⟨L, ?_, hLr⟩, H.few, ?_⟩
        · rw [hkl]
          refine hold _ fun j hj hjn => ?_
          rcases Nat.eq_zero_or_pos j with rfl | hjp
          · exact n5
          · rw [lookK_crash]
            refine (n6 j hjp hjn).trans ?_
            unfold lookN
            rw [if_neg (by omega), if_neg (by rw [hlen]; omega)]
        · have := H.age
          have := S.calls.1
          show h.age ≤ (dStore _ _ _ _).2.calls
          omega
      · right
        refine ⟨rfl, rfl, ⟨L', ?_, hr'⟩, hfew, ?_⟩
        · rw [hkl]
          exact hneu _ n5 fun j j1 j2 => n6 j j1 j2
        · have := H.age
          show h1.age + 1 ≤ (dStore _ _ _ _).2.calls
          omega

theorem puts_append {s : DS} {h : Hd} {r ch : List Chg} (H : Inv s h r) (hn : 1 ≤ s.kept.length) (hroom : h.used + secs ch ≤ roomN s.kept.length) (hok : ∀ c ∈ ch, OkC c) (hfew : (aft (r ++ ch)).length ≤ 256) :
    Puts s h (nextH h ch) r (aft (r ++ ch)) (putP s h ch) := by
  obtain ⟨L, hL, rfl⟩ := H.has
  refine puts_of (L := L) (L' := L ++ ch) H hL rfl hn rfl hL.half hroom (fun j h1 h2 => by omega) ?_ ?_ (aft_aft L ch).symm hfew
  · rw [hL.cat, encL_append]
  · intro c hc
    rcases List.mem_append.1 hc with hc | hc
    · exact hL.ok c hc
    · exact hok c hc
/-- The half that does not count. -/
def otherH (h : Hd) : Hd := ⟨h.age, 1 - h.half, 0⟩
theorem puts_rewrite {s : DS} {h : Hd} {r nx : List Chg} (H : Inv s h r) (hn : 1 ≤ s.kept.length) (hroom : secs nx ≤ roomN s.kept.length) (hok : ∀ c ∈ nx, OkC c) (hrec : Recs nx) (hfew : nx.length ≤ 256) :
    Puts s h (nextH (otherH h) nx) r nx (putP s (otherH h) nx) := by
  obtain ⟨L, hL, hr⟩ := H.has
  have h1 := hL.half
  have h2 := hL.used
  refine puts_of (L := L) (L' := nx) H hL hr hn rfl (by show 1 - h.half ≤ 1; omega) (by show 0 + secs nx ≤ _; omega) (fun j j1 j2 => ?_) rfl hok (aft_self hrec) hfew
  show ¬ (1 + (1 - h.half) * roomN s.kept.length + 0 ≤ j ∧ j < 1 + (1 - h.half) * roomN s.kept.length + 0 + secs nx)
  unfold Hd.first at j1 j2
  rcases Nat.eq_zero_or_pos h.half with e | e
  · rw [e] at j1 j2 ⊢
    omega
  · have e : h.half = 1 := by omega
    rw [e] at j1 j2 ⊢
    omega

/-! ### a disk that has power for good -/
def Calm (s : DS) : Prop := s.armed ≤ 0 ∧ s.down = false
theorem calm_pow {s : DS} (h : Calm s) : powN s.armed s.down = false ∧ powA s.armed = s.armed := by
  have h1 := h.1
  refine ⟨?_, ?_⟩
  · unfold powN
    rw [h.2, decide_eq_false (by omega)]
    rfl
  · unfold powA
    rw [if_neg (by omega)]
theorem calm_write {s : DS} (h : Calm s) (i : Nat) (b : List UInt8) : (dWrite s i b).1 = true ∧ Calm (dWrite s i b).2 ∧ (dWrite s i b).2.armed = s.armed := by
  unfold dWrite
  rw [(calm_pow h).1, (calm_pow h).2]
  exact ⟨rfl, ⟨h.1, rfl⟩, rfl⟩
theorem calm_flush {s : DS} (h : Calm s) : (dFlush s).1 = true ∧ Calm (dFlush s).2 ∧ (dFlush s).2.armed = s.armed := by
  unfold dFlush flushD
  rw [(calm_pow h).1, (calm_pow h).2]
  exact ⟨rfl, ⟨h.1, rfl⟩, rfl⟩
theorem calm_then {x : Bool × DS} {f : DS → Bool × DS} {a : Int} (h : x.1 = true ∧ Calm x.2 ∧ x.2.armed = a) (hf : ∀ s, Calm s → s.armed = a → (f s).1 = true ∧ Calm (f s).2 ∧ (f s).2.armed = a) : (dThen x f).1 = true ∧ Calm (dThen x f).2 ∧ (dThen x f).2.armed = a := by
  unfold dThen
  rw [h.1]
  exact hf _ h.2.1 h.2.2
theorem calm_parts : ∀ (ps : List (List UInt8)) {s : DS} (_ : Calm s) (i : Nat), (dParts s i ps).1 = true ∧ Calm (dParts s i ps).2 ∧ (dParts s i ps).2.armed = s.armed
  | [], s, h, _ => ⟨rfl, h, rfl⟩
  | p :: r, s, h, i => calm_then (calm_write h i p) fun s' h' e => by rw [← e]; exact calm_parts r h' (i + 1)
theorem calm_put {s : DS} (h : Calm s) (h1 : Hd) (ch : List Chg) : (putP s h1 ch).1 = true ∧ Calm (putP s h1 ch).2 ∧ (putP s h1 ch).2.armed = s.armed :=
  calm_then (calm_then (calm_then (calm_parts _ h _) fun s' h' e => by rw [← e]; exact calm_flush h') fun s' h' e => by rw [← e]; exact calm_write h' _ _) fun s' h' e => by rw [← e]; exact calm_flush h'

/-! ### Commit and Compact -/
inductive Res | fine | range | many | full | crash
structure St where
  s : DS
  h : Hd
  r : List Chg
def badKey (c : Chg) : Bool := decide (c.key.length < 1) || decide (40 < c.key.length)
def badVal (c : Chg) : Bool := decide (32768 < c.val.length)
/-- What is amiss with changes as such. -/
def chk (l : List Chg) : Res := if l.any badKey then .range else if l.any badVal then .many else .fine
def fin (x : Bool × DS) (h h' : Hd) (r r' : List Chg) : Res × St := if x.1 then (.fine, ⟨x.2, h', r'⟩) else (.crash, ⟨x.2, h, r⟩)
def rewr (t : St) (nx : List Chg) : Res × St :=
  if roomN t.s.kept.length < secs nx then (.full, t) else fin (putP t.s (otherH t.h) nx) t.h (nextH (otherH t.h) nx) t.r nx
def comm (t : St) (l : List Chg) : Res × St :=
  if l.any badKey then (.range, t) else if l.any badVal then (.many, t) else
  if 256 < (aft (t.r ++ eff t.r l)).length then (.many, t) else if eff t.r l = [] then (.fine, t) else
  if secs (eff t.r l) < secs (aft (t.r ++ eff t.r l)) ∧ t.h.used + secs (eff t.r l) ≤ roomN t.s.kept.length then fin (putP t.s t.h (eff t.r l)) t.h (nextH t.h (eff t.r l)) t.r (aft (t.r ++ eff t.r l))
  else rewr t (aft (t.r ++ eff t.r l))
def Inv' (t : St) : Prop := Inv t.s t.h t.r
/-- What holds behind a call that writes r'. -/
structure Did (t : St) (r' : List Chg) (x : Res × St) : Prop where
  len : x.2.s.kept.length = t.s.kept.length
  calls : t.s.calls ≤ x.2.s.calls ∧ x.2.s.calls ≤ t.s.calls + t.s.kept.length + 3
  fine : x.1 = .fine → Inv' x.2 ∧ x.2.r = r'
  crash : x.1 = .crash → x.2.s.down = true ∧ ∀ zs, Inv (crashD x.2.s zs) t.h t.r ∨ ∃ h', Inv (crashD x.2.s zs) h' r'
  else_ : x.1 ≠ .fine → x.1 ≠ .crash → x.2 = t
  calm : Calm t.s → x.1 ≠ .crash ∧ Calm x.2.s ∧ x.2.s.armed = t.s.armed
theorem did_same {t : St} {r' : List Chg} {e : Res} (H : Inv' t) (he : e ≠ .crash) (hf : e = .fine → r' = t.r) : Did t r' (e, t) :=
  ⟨rfl, ⟨Int.le_refl _, by show t.s.calls ≤ _; omega⟩, fun h => ⟨H, (hf h).symm⟩, fun h => absurd h he, fun _ _ => rfl, fun h => ⟨he, h, rfl⟩⟩
theorem did_fin {t : St} {h' : Hd} {r' : List Chg} {x : Bool × DS} (P : Puts t.s t.h h' t.r r' x) (hc : Calm t.s → x.1 = true ∧ Calm x.2 ∧ x.2.armed = t.s.armed) : Did t r' (fin x t.h h' t.r r') := by
  unfold fin
  cases hb : x.1
  · refine ⟨P.len, P.calls, (fun h => by simp at h), fun _ => ⟨(P.no hb).1, fun zs => ?_⟩, (fun _ h => by simp at h), fun h => by have := (hc h).1; rw [hb] at this; cases this⟩
    rcases (P.no hb).2 zs with h | h
    · exact .inl h
    · exact .inr ⟨h', h⟩
  · exact ⟨P.len, P.calls, fun _ => ⟨P.yes hb, rfl⟩, (fun h => by simp at h), (fun h _ => by simp at h), fun h => ⟨by simp, (hc h).2⟩⟩
theorem did_rewr {t : St} {nx : List Chg} (H : Inv' t) (hn : 1 ≤ t.s.kept.length) (hok : ∀ c ∈ nx, OkC c) (hrec : Recs nx) (hfew : nx.length ≤ 256) : Did t nx (rewr t nx) := by
  unfold rewr
  split
  · exact did_same H (by simp) (by simp)
  · exact did_fin (puts_rewrite H hn (by omega) hok hrec hfew) fun h => calm_put h _ _
theorem chk_ok {l : List Chg} (h1 : l.any badKey = false) (h2 : l.any badVal = false) : ∀ c ∈ l, OkC (strip c) := by
  intro c hc
  have a := List.any_eq_false.1 h1 c hc
  have b := List.any_eq_false.1 h2 c hc
  simp only [badKey, badVal, Bool.or_eq_true, decide_eq_true_eq, not_or] at a b
  exact OkC.strip (by omega) (by omega) (by omega)
theorem eff_ok {r l : List Chg} (h1 : l.any badKey = false) (h2 : l.any badVal = false) : ∀ c ∈ eff r l, OkC c := by
  intro c hc
  obtain ⟨x, hx, rfl⟩ := setl_mem (List.mem_filter.1 hc).1
  exact chk_ok h1 h2 x hx
theorem did_comm {t : St} (H : Inv' t) (hn : 1 ≤ t.s.kept.length) (l : List Chg) : Did t (aft (t.r ++ l)) (comm t l) := by
  unfold comm
  have he := aft_eff H.recs l
  split
  · exact did_same H (by simp) (by simp)
  · rename_i k1
    split
    · exact did_same H (by simp) (by simp)
    · rename_i k2
      have k1 : l.any badKey = false := by simpa using k1
      have k2 : l.any badVal = false := by simpa using k2
      split
      · exact did_same H (by simp) (by simp)
      · rename_i k3
        split
        · rename_i k4
          exact did_same H (by simp) (fun _ => eff_nil H.recs k4)
        · rw [← he]
          split
          · rename_i k5
            exact did_fin (puts_append H hn k5.2 (eff_ok k1 k2) (by omega)) fun h => calm_put h _ _
          · refine did_rewr H hn (fun c hc => ?_) (aft_recs _) (by omega)
            rcases List.mem_append.1 (aft_mem hc) with h | h
            · exact H.ok c h
            · exact eff_ok k1 k2 c h
end Go.Proofs.YtmpklljiddggpaaGreatDoor
