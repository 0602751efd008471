/-
  The walk of LexPlaces. Conditions: the listed errors lie as they are laid.
-/
import Derived.Test.YteceipngknhcfaaDoorQWkLj
namespace Go.Proofs.YteceipngknhcfaaDoor
open Go.Shelf Go.RowKit Go.Lib

/-- A name of k letters, the i-th one. -/
def wP (i : Nat) : Nat → List Nat
  | 0 => []
  | j + 1 => wP i j ++ [if (i + j) % 2 = 0 then 97 else 945]
theorem wP_length (i : Nat) : ∀ j, (wP i j).length = j
  | 0 => rfl
  | j + 1 => by simp [wP, wP_length i j]
theorem wP_let (i : Nat) : ∀ j, ∀ r ∈ wP i j, letB (r : Int) = true ∧ goodR r = true ∧ (encB r).length ≤ 2
  | 0, r, hr => by cases hr
  | j + 1, r, hr => by
    rcases List.mem_append.1 hr with hr | hr
    · exact wP_let i j r hr
    · simp at hr
      subst hr
      split <;> decide
def gP : List Nat := [32, 45, 45, 32, 233, 10]
theorem gP_gap : Gap gP := Gap.blank (by decide) (Gap.remark (m := [32, 233]) (by decide) Gap.nil)
/-- How many letters the i-th name has. -/
def kP (l : List Int) (i : Nat) : Nat := ((l.getD i 0) % 5).toNat + 1
theorem kP_le (l : List Int) (i : Nat) : 1 ≤ kP l i ∧ kP l i ≤ 5 := by unfold kP; omega
def itP (l : List Int) (i : Nat) : It := ⟨wP i (kP l i), gP, 1, 0⟩
theorem encs_le2 : ∀ (l : List Nat), (∀ r ∈ l, (encB r).length ≤ 2) → (encs l).length ≤ 2 * l.length
  | [], _ => by simp [encs]
  | r :: t, h => by
    have h1 := h r (by simp)
    have h2 := encs_le2 t (fun x hx => h x (List.mem_cons_of_mem _ hx))
    rw [encs_cons, List.length_append, List.length_cons]
    omega
theorem kws_a2 : ∀ k ∈ kws, ¬ (∀ c ∈ k, c = 97 ∨ 128 ≤ c.toNat) := by decide
theorem wP_bytes (i : Nat) : ∀ j, ∀ c ∈ encs (wP i j), c = 97 ∨ 128 ≤ c.toNat
  | 0, c, hc => by cases hc
  | j + 1, c, hc => by
    rw [wP, encs_append] at hc
    rcases List.mem_append.1 hc with hc | hc
    · exact wP_bytes i j c hc
    · have : ∀ c ∈ encs [97], c = 97 ∨ 128 ≤ c.toNat := by decide
      have h2 : ∀ c ∈ encs [945], c = 97 ∨ 128 ≤ c.toNat := by decide
      split at hc
      · exact this c hc
      · exact h2 c hc
theorem itP_good (l : List Int) (i : Nat) : (itP l i).Good := by
  obtain ⟨h1, h2⟩ := kP_le l i
  have hlen := wP_length i (kP l i)
  have hlet := wP_let i (kP l i)
  have hby := wP_bytes i (kP l i)
  unfold itP
  obtain ⟨W, hW⟩ : ∃ W, W = wP i (kP l i) := ⟨_, rfl⟩
  rw [← hW] at hlen hlet hby ⊢
  cases W with
  | nil => simp at hlen; omega
  | cons a t =>
    have he := encs_le2 (a :: t) (fun r hr => (hlet r hr).2.2)
    exact It.name (hlet a (by simp)).1 (fun x hx => let_in (hlet x (by simp [hx])).1) (by omega) gP_gap ⟨32, _, rfl, by decide⟩ 1 (by rw [if_neg (fun hm => kws_a2 _ hm hby)])
def itsP (l : List Int) (n : Nat) : List It := (List.range n).map (itP l)
theorem itsP_length (l : List Int) (n : Nat) : (itsP l n).length = n := by simp [itsP]
theorem itsP_succ (l : List Int) (n : Nat) : itsP l (n + 1) = itsP l n ++ [itP l n] := by simp [itsP, List.range_succ]
theorem catP_succ (l : List Int) (n : Nat) : catI (itsP l (n + 1)) = catI (itsP l n) ++ (wP n (kP l n) ++ gP) := by
  rw [itsP_succ, catI_append]
  simp [catI, itP]
/-- Where the i-th name begins. -/
def pP (l : List Int) (n : Nat) : Nat := (catI (itsP l n)).length
theorem pP_succ (l : List Int) (n : Nat) : pP l (n + 1) = pP l n + kP l n + 6 := by
  unfold pP
  rw [catP_succ, List.length_append, List.length_append, wP_length]
  show _ + (_ + 6) = _
  omega
theorem pP_le (l : List Int) : ∀ n, pP l n ≤ 11 * n
  | 0 => by simp [pP, itsP, catI]
  | n + 1 => by have := pP_le l n; have := (kP_le l n).2; rw [pP_succ]; omega
theorem catP_good (l : List Int) : ∀ n, ∀ r ∈ catI (itsP l n), goodR r = true ∧ (encB r).length ≤ 2
  | 0, r, hr => by simp [itsP, catI] at hr
  | n + 1, r, hr => by
    rw [catP_succ] at hr
    rcases List.mem_append.1 hr with hr | hr
    · exact catP_good l n r hr
    · rcases List.mem_append.1 hr with hr | hr
      · exact (wP_let n _ r hr).2
      · have : ∀ r ∈ gP, goodR r = true ∧ (encB r).length ≤ 2 := by decide
        exact this r hr
theorem catP_len (l : List Int) (n : Nat) : (encs (catI (itsP l n))).length ≤ 22 * n := by
  have h1 := encs_le2 _ (fun r hr => (catP_good l n r hr).2)
  have h2 := pP_le l n
  unfold pP at h2
  omega
def tksP (l : List Int) (n : Nat) : List Tk := tkI (catI (itsP l n)).length 0 (itsP l n) ++ [⟨0, (catI (itsP l n)).length, [], 0⟩]
theorem lexP (l : List Int) (n : Nat) (S : ByteArray) (hS : S.data.toList = encs (catI (itsP l n))) : LexIs S (tksP l n) none :=
  lexIs_encs hS (fun r hr => (catP_good l n r hr).1) fun hok => lx_all hok _ (fun x hx => by obtain ⟨k, _, rfl⟩ := List.mem_map.1 hx; exact itP_good l k) rfl
theorem tksP_length (l : List Int) (n : Nat) : (tksP l n).length = n + 1 := by simp [tksP, tkI_length, itsP_length]
theorem tkI_pos (N : Nat) : ∀ (a : List It) (x : It) (b : List It), N = (catI (a ++ x :: b)).length → (tkI N 0 (a ++ x :: b))[a.length]? = some ⟨x.k, (catI a).length, encs x.w, x.n⟩
  | [], x, b, h => by
    simp only [List.nil_append] at h ⊢
    simp only [tkI, List.length_nil, List.getElem?_cons_zero]
    rw [h]
    simp [catI]
  | y :: a, x, b, h => by
    have key : ∀ (l : List It) (M c : Nat), tkI (M + c) 0 l = (tkI (M + c) 0 l) := fun _ _ _ => rfl
    clear key
    suffices ∀ (a : List It) (off : Nat), N = off + (catI (a ++ x :: b)).length → (tkI N 0 (a ++ x :: b))[a.length]? = some ⟨x.k, off + (catI a).length, encs x.w, x.n⟩ by
      have := this (y :: a) 0 (by rw [Nat.zero_add]; exact h)
      rw [Nat.zero_add] at this
      exact this
    intro a
    induction a with
    | nil =>
      intro off ho
      simp only [List.nil_append] at ho ⊢
      simp only [tkI, List.length_nil, List.getElem?_cons_zero]
      rw [ho]
      simp [catI]
    | cons z a ih =>
      intro off ho
      have := ih (off + (z.w ++ z.g).length) (by rw [ho, List.cons_append, catI]; simp; omega)
      simp only [List.cons_append, List.length_cons, tkI, List.getElem?_cons_succ]
      rw [this]
      simp [catI]
      omega
theorem tksP_get (l : List Int) (n k : Nat) (hk : k < n) : ∃ x, (tksP l n)[k]? = some ⟨1, pP l k, x, 0⟩ := by
  have hs : itsP l n = itsP l k ++ itP l k :: ((List.range n).drop (k + 1)).map (itP l) := by
    have h1 : List.range n = List.range k ++ k :: (List.range n).drop (k + 1) := by
      have h2 : (List.range n).take k = List.range k := by rw [List.take_range]; congr 1; omega
      have h3 : (List.range n).drop k = k :: (List.range n).drop (k + 1) := by
        rw [List.drop_eq_getElem_cons (by simpa using hk)]
        simp
      rw [← h2, ← h3, List.take_append_drop]
    unfold itsP
    conv => lhs; rw [h1]
    simp
  have hp := tkI_pos (catI (itsP l n)).length (itsP l k) (itP l k) (((List.range n).drop (k + 1)).map (itP l)) (by rw [hs])
  rw [← hs, itsP_length] at hp
  refine ⟨encs (wP k (kP l k)), ?_⟩
  unfold tksP
  rw [List.getElem?_append_left (by rw [tkI_length, itsP_length]; exact hk), hp]
  rfl
theorem tksP_end (l : List Int) (n : Nat) : (tksP l n)[n]? = some ⟨0, pP l n, [], 0⟩ := by
  unfold tksP
  rw [List.getElem?_append_right (by rw [tkI_length, itsP_length]; omega), tkI_length, itsP_length]
  simp [pP]

/-- How an integer lies. -/
def LI : Lie Int := ⟨3, 1, fun z => [.int .i64 z], fun _ => rfl, fun _ u hu => by simp at hu; subst hu; rfl⟩
theorem LIat : LieAt Tryd.prog 43 LI := by
  have h : (Tryd.prog.info? 3).map (fun i => (i.zero, i.size, i.bytes)) = some (some (.int .i64 0), 1, 8) := by kernel_rfl
  obtain ⟨i0, hi, hz0, hz1, hz2⟩ := info_parts h
  exact ⟨Tryd.underlying43, ⟨i0, _, hi, hz0, hz1, by omega, rfl⟩, by decide⟩
def poP (l : List Int) (n : Nat) : List Int := (List.range n).map fun k => (pP l k : Int)
theorem poP_length (l : List Int) (n : Nat) : (poP l n).length = n := by simp [poP]
theorem poP_succ (l : List Int) (n : Nat) : poP l (n + 1) = poP l n ++ [(pP l n : Int)] := by simp [poP, List.range_succ]
theorem mod2 (k j : Nat) : ((k + j) % 2 = 0 ∧ ((k : Int) + (j : Int)).tmod 2 = 0) ∨ ((k + j) % 2 = 1 ∧ ((k : Int) + (j : Int)).tmod 2 = 1) := by
  have : ((k : Int) + (j : Int)).tmod 2 = (((k + j) % 2 : Nat) : Int) := by
    rw [Int.tmod_eq_emod_of_nonneg (by omega)]
    omega
  omega
def PoRel (w1 : World) (l : List Int) (x v n i : Value) (wr : World) : Prop :=
  ∃ (k : Nat) (S : ByteArray) (A : Option Addr) (c : Nat), k ≤ l.length ∧ x = .string S ∧ S.data.toList = encs (catI (itsP l k)) ∧ v = .slice A k c ∧ n = .int .i64 (pP l k : Int) ∧ i = .int .i64 (k : Int) ∧ Ow LI wr w1.heap.size (.slice A k c) (poP l k) ∧ Below w1.heap.size w1 wr
def PiRel (w1 : World) (l : List Int) (k m : Nat) (A : Option Addr) (c : Nat) (x j : Value) (wr : World) : Prop :=
  ∃ (q : Nat) (T : ByteArray), q ≤ m ∧ x = .string T ∧ T.data.toList = encs (catI (itsP l k)) ++ encs (wP k q) ∧ j = .int .i64 (q : Int) ∧ Ow LI wr w1.heap.size (.slice A (k + 1) c) (poP l (k + 1)) ∧ Below w1.heap.size w1 wr

set_option maxRecDepth 100000 in
set_option maxHeartbeats 4000000 in
theorem lexPlaces_raw (a1 : Option Addr) (n1 c1 : Nat) (l : List Int) (w : World) (hl : n1 = l.length) (h1 : Ints w w.heap.size a1 l) (er : Nat → Addr) (hE : Lerr w er) :
    Calls Tryd.prog 8 #[.slice a1 n1 c1] w (RetYes w) := by
  have HF := Lib.hid (lfirst_any er w hE)
  by_cases hn1 : 20 < n1
  · clear hl hE h1
    go_enter Tryd.func8, Tryd.ntmps8
    go_wp2_with fail
    refine HF.out.mono ?_
    rintro e w1 ⟨rfl, hB1⟩
    go_wp2
    go_ret
    exact ⟨rfl, hB1⟩
  have hn1' : n1 ≤ 20 := by omega
  have HL := Lib.hid hl
  have H1 := Lib.hid h1
  have HE := Lib.hid hE
  clear hl h1 hE hn1
  go_enter Tryd.func8, Tryd.ntmps8
  go_wp2_with fail
  refine HF.out.mono ?_
  rintro e w1 ⟨rfl, hB1⟩
  have HE1 := Lib.hid (HE.out.below hB1)
  have HI1 := Lib.hid (H1.out.below hB1)
  have HB1 := Lib.hid hB1
  clear hB1 HF
  go_wp2
  go_loopw [4, 5, 6, 7] (fun x v n i wr => PoRel w1 l x v n i wr) (fun _ _ _ i _ => n1 - (RowKit.intOf i).toNat)
  case atStart => exact ⟨0, ⟨#[]⟩, none, 0, Nat.zero_le _, rfl, by simp [itsP, catI, encs], rfl, by simp [pP, itsP, catI], rfl, Ow.nil LI w1 _, Below.refl _ _⟩
  case round =>
    obtain ⟨k, S, A0, c0, hk, rfl, hS, rfl, rfl, rfl, hO, hB⟩ := hrel
    have hpl := pP_le l k
    have hpl2 : pP l k ≤ 220 := by have := HL.out; omega
    by_cases hp : k < n1
    · have hkl : k < l.length := by have := HL.out; omega
      have hwr := hB.size
      have hwz : w.heap.size ≤ w1.heap.size := HB1.out.size
      have hI1 := HI1.out.below (hB.mono hwz)
      obtain ⟨ad, rfl, -, hc1⟩ := hI1.pick hkl
      have hm1 := Int.emod_nonneg l[k] (show (5 : Int) ≠ 0 by decide)
      have hm2 := Int.emod_lt_of_pos l[k] (show (0 : Int) < 5 by decide)
      obtain ⟨a, ha⟩ : ∃ a : Nat, l[k] % 5 = (a : Int) := ⟨(l[k] % 5).toNat, by omega⟩
      have hkP : kP l k = a + 1 := by unfold kP; rw [show l.getD k 0 = l[k] by simp [List.getD, List.getElem?_eq_getElem hkl], ha]; rfl
      have HN1 := Lib.hid (fun W => number_any l[k] 5 W (by decide) (by decide))
      rw [ha] at HN1 hm2
      have ha5 : a ≤ 4 := by omega
      obtain ⟨v', w', hrun, hO', hB'⟩ := wpList_row_one (t := 43) LIat (pP l k : Int) hO (by rw [poP_length]; omega) hwr
      obtain ⟨A1, cp1, rfl⟩ := hO'.slice
      rw [show (poP l k ++ [(pP l k : Int)]).length = k + 1 by rw [List.length_append, poP_length]; rfl] at hrun hO'
      have HRow : Hid (Ow LI w' w1.heap.size (.slice A1 (k + 1) cp1) (poP l (k + 1))) := Lib.hid (by rw [poP_succ]; exact hO')
      have HBw := Lib.hid (hB.trans hB')
      have HSd := Lib.hid hS
      have HkP := Lib.hid hkP
      have HKl := Lib.hid hkl
      have hszS : S.size ≤ 22 * k := by have := S_size hS; have := catP_len l k; omega
      have HPS := Lib.hid (pP_succ l k)
      obtain ⟨P, hP⟩ : ∃ P, P = pP l k := ⟨_, rfl⟩
      rw [← hP] at hrun hpl2 HPS ⊢
      clear hS hkP ha hO hO' hB hB' hI1 hm1 hpl hP
      go_wp2_with fail
      refine (HN1.out _).mono ?_
      rintro e w5 ⟨rfl, rfl⟩
      go_wp2_with (at_builtin; refine wpList_append_eq rfl _ _ 43 rfl _ _ _ w' rfl rfl (hrun _) ?_)
      go_loopw [4, 9] (fun x j wr => PiRel w1 l k (a + 1) A1 cp1 x j wr) (fun _ j _ => a + 1 - (RowKit.intOf j).toNat)
      case atStart => exact ⟨0, S, Nat.zero_le _, rfl, by rw [HSd.out]; simp [wP, encs], rfl, HRow.out, HBw.out⟩
      case round =>
        obtain ⟨q, T, hq, rfl, hT, rfl, hO2, hB2⟩ := hrel
        have hszT : T.size ≤ 22 * k + 2 * q := by
          have e1 := S_size hT
          have e2 := S_size HSd.out
          have e3 := encs_le2 (wP k q) (fun r hr => (wP_let k q r hr).2.2)
          rw [List.length_append, ← e2] at e1
          rw [wP_length] at e3
          omega
        have HTd := Lib.hid hT
        have HO2 := Lib.hid hO2
        have HB2 := Lib.hid hB2
        clear hT hO2 hB2
        by_cases hqa : q < a + 1
        · have hal : ∀ o, Below w1.heap.size w1 (World.alloc _ o) := fun o => HB2.out.alloc HB2.out.size o
          have HAl := Lib.hid hal
          have HOl := Lib.hid (fun o => HO2.out.below (w' := World.alloc _ o) ((Below.refl _ _).alloc (Nat.le_refl _) o) (Nat.le_refl _))
          clear hal
          rcases mod2 k q with ⟨h2, h2'⟩ | ⟨h2, h2'⟩
          · have HG : Hid ((T ++ ⟨#[97]⟩).data.toList = encs (catI (itsP l k)) ++ encs (wP k (q + 1))) := Lib.hid (by
              rw [ByteArray.data_append, Array.toList_append, HTd.out, wP, if_pos h2, encs_append, List.append_assoc]; rfl)
            clear h2 HTd
            go_wp2
            go_roundw
            case rel => exact ⟨q + 1, _, by omega, rfl, HG.out, by go_num, HOl.out _, HAl.out _⟩
            case measure => simp [RowKit.intOf]; omega
          · have HG : Hid ((T ++ ⟨#[206, 177]⟩).data.toList = encs (catI (itsP l k)) ++ encs (wP k (q + 1))) := Lib.hid (by
              rw [ByteArray.data_append, Array.toList_append, HTd.out, wP, if_neg (by omega), encs_append, List.append_assoc]; rfl)
            clear h2 HTd
            go_wp2
            go_roundw
            case rel => exact ⟨q + 1, _, by omega, rfl, HG.out, by go_num, HOl.out _, HAl.out _⟩
            case measure => simp [RowKit.intOf]; omega
        · obtain rfl : q = a + 1 := by omega
          have HG : Hid ((T ++ ⟨#[32, 45, 45, 32, 195, 169, 10]⟩).data.toList = encs (catI (itsP l (k + 1)))) := Lib.hid (by
            rw [ByteArray.data_append, Array.toList_append, HTd.out, catP_succ, HkP.out, encs_append, encs_append, List.append_assoc]; rfl)
          have HPn : Hid (P + (a + 1) + 6 = pP l (k + 1)) := Lib.hid (by rw [HPS.out, HkP.out])
          clear hqa hq HTd
          go_wp2
          go_roundw
          case rel => exact ⟨k + 1, _, A1, cp1, by have := HKl.out; omega, rfl, HG.out, by rfl, by rw [← HPn.out]; go_num, by go_num, HO2.out, HB2.out⟩
          case measure => simp [RowKit.intOf]; omega
    · obtain rfl : k = n1 := by have := HL.out; omega
      have hsz : S.size ≤ 440 := by have := S_size hS; have := catP_len l k; omega
      have hHA := all_any S (by omega) er (tksP l k) none (lexP l k S hS) (by rw [tksP_length]; omega) wr (HE1.out.below hB)
      have HA2 := Lib.hid hHA
      have HO := Lib.hid hO
      have HBr := Lib.hid (HB1.out.trans (hB.mono HB1.out.size))
      obtain ⟨P, hP⟩ : ∃ P, P = pP l k := ⟨_, rfl⟩
      have HP := Lib.hid hP
      rw [← hP] at hpl2 ⊢
      clear hHA hS hO hB hsz HI1 HE1 hpl hP
      go_wp2_with fail
      refine HA2.out.mono ?_
      rintro e w5 ⟨hB5, v5, rfl, hO5⟩
      have hne : tksP l k ≠ [] := fun e => by have := congrArg List.length e; rw [tksP_length] at this; simp at this
      obtain ⟨g, c5, rfl, -, -, hlc, hcell⟩ := hO5.at_ hne
      have hcl : ∀ (j : Nat) (t : Tk), (tksP l k)[j]? = some t → ∀ (m : Nat) (u : Value), (LT.enc t)[m]? = some u → w5.cell? ⟨g, j * 4 + m, none⟩ = some u := fun j t ht m u hu => by
        obtain ⟨h1, h2⟩ := List.getElem?_eq_some_iff.1 ht
        have := hcell j h1 m u (by rw [h2]; exact hu)
        rwa [show LT.n = 4 from rfl] at this
      have hk1 : w5.cell? ⟨g, k * 4 + 1, none⟩ = some (.int .i64 (P : Int)) := by
        rw [HP.out]
        exact hcl k _ (tksP_end l k) 1 _ rfl
      have HC := Lib.hid hcl
      have hwant : ∀ j, j < k → ∃ ad, A0 = some ad ∧ wr.cell? (ad.add j) = some (.int .i64 (pP l j : Int)) ∧ ad.block < wr.heap.size := fun j hj => by
        have h0 : poP l k ≠ [] := fun e => by have := congrArg List.length e; rw [poP_length] at this; simp at this; omega
        obtain ⟨g2, c2, e2, -, hlt, -, hc2⟩ := HO.out.at_ h0
        simp only [Value.slice.injEq] at e2
        obtain ⟨rfl, -, rfl⟩ := e2
        refine ⟨_, rfl, ?_, hlt⟩
        have := hc2 j (by rw [poP_length]; exact hj) 0 (.int .i64 (pP l j : Int)) (by simp [poP, LI])
        rw [lit_add]
        simpa [LI] using this
      have HWn := Lib.hid hwant
      have HB5 := Lib.hid hB5
      rw [tksP_length] at hlc ⊢
      clear hcell hO5 hwant hB5 hcl
      go_wp2
      go_loopw [12] (fun i wr2 => ∃ j : Nat, j ≤ k ∧ i = .int .i64 (j : Int) ∧ Below w5.heap.size w5 wr2) (fun i _ => k - (RowKit.intOf i).toNat)
      case atStart => exact ⟨0, Nat.zero_le _, rfl, Below.refl _ _⟩
      case round =>
        obtain ⟨j, hj, rfl, hBx⟩ := hrel
        have HBx := Lib.hid hBx.drew
        have HBy := Lib.hid hBx
        by_cases hjk : j < k
        · obtain ⟨ad, rfl, hwc, hwl⟩ := HWn.out j hjk
          have hwc5 := (hBx.cell (p := ad.add j) (by rw [add_block]; have := HB5.out.size; omega)).trans ((HB5.out.cell (by rw [add_block]; exact hwl)).trans hwc)
          obtain ⟨x, hx⟩ := tksP_get l k j hjk
          have hgl : g < w5.heap.size := World.block_lt_of_cell? w5 _ hk1
          have ht0 := (hBx.cell (p := ⟨g, j * 4, none⟩) hgl).trans (HC.out j _ hx 0 _ rfl)
          have ht1 := (hBx.cell (p := ⟨g, j * 4 + 1, none⟩) hgl).trans (HC.out j _ hx 1 _ rfl)
          obtain ⟨t, ht⟩ : ∃ t, t = pP l j := ⟨_, rfl⟩
          rw [← ht] at hwc5 ht1
          simp only [show (((1 : Nat)) : Int) = 1 from rfl] at ht0
          clear hwc ht hBx hx
          go_wp2
          go_region
          all_goals
            go_wp2
            go_roundw
            case rel => exact ⟨j + 1, by omega, by go_num, HBx.out⟩
            case measure => simp [RowKit.intOf]; omega
        · clear hBx
          go_wp2
          go_ret
          exact ⟨rfl, HBr.out.trans ((HB5.out.trans (HBy.out.mono HB5.out.size)).mono (by have := HBr.out.size; omega))⟩
theorem lexPlaces_walk (a1 : Option Addr) (n1 c1 : Nat) (l : List Int) (w : World) (hl : n1 = l.length) (h1 : Ints w w.heap.size a1 l) (hL : laidMetH Tryd.prog laid8 w) :
    Calls Tryd.prog 8 #[.slice a1 n1 c1] w (RetYes w) := by
  obtain ⟨er, hE, _⟩ := of8 hL
  exact lexPlaces_raw a1 n1 c1 l w hl h1 er hE
end Go.Proofs.YteceipngknhcfaaDoor
