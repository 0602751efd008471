/-
  The walks of keyword and Name. Conditions: none.
-/
import Derived.Test.YtacmibkcnmaagaaDoorQTxD
namespace Go.Proofs.YtacmibkcnmaagaaDoor
open Go.Shelf Go.RowKit Go.Lib

/-- The keywords. -/
def kws : List (List UInt8) := [[97, 110, 100], [98, 111, 111, 108], [101, 108, 115, 101], [101, 118, 101, 114, 121], [102, 97, 108, 115, 101], [102, 98, 121], [105, 102], [105, 110, 116], [108, 101, 116], [109, 101, 114, 103, 101], [109, 111, 100], [110, 111, 100, 101], [110, 111, 116], [111, 114], [112, 114, 101], [114, 101, 116, 117, 114, 110, 115], [116, 101, 108], [116, 104, 101, 110], [116, 114, 117, 101], [118, 97, 114], [119, 104, 101, 110], [120, 111, 114]]
/-- Is it one? -/
def kwB (s : ByteArray) : Bool := decide (s.data.toList ∈ kws)
theorem of_bytes {s : ByteArray} {l : List UInt8} (h : s.data.toList = l) : s = ⟨l.toArray⟩ := by
  obtain ⟨d⟩ := s
  congr 1
  simpa using congrArg List.toArray h
theorem bytes_ne {s : ByteArray} {l : List UInt8} (h : ¬ s.data.toList = l) : (s.toList == l) = false := by
  rw [ByteArray.toList_eq]
  exact beq_eq_false_iff_ne.2 h

set_option maxRecDepth 100000 in
set_option maxHeartbeats 4000000 in
theorem keyword_any (s : ByteArray) (w : World) : Calls Tryd.prog 110 #[.string s] w (RetKb w (kwB s)) := by
  by_cases h : s.data.toList ∈ kws
  · rw [kwB, decide_eq_true h]
    simp only [kws, List.mem_cons, List.not_mem_nil, or_false] at h
    rcases h with h | h | h | h | h | h | h | h | h | h | h | h | h | h | h | h | h | h | h | h | h | h
    all_goals
      obtain rfl := of_bytes h
      clear h
      go_enter Tryd.func110, Tryd.ntmps110
      go_wp2
      go_ret
      exact ⟨rfl, rfl⟩
  · rw [kwB, decide_eq_false h]
    simp only [kws, List.mem_cons, List.not_mem_nil, or_false, not_or] at h
    obtain ⟨h0, h1, h2, h3, h4, h5, h6, h7, h8, h9, h10, h11, h12, h13, h14, h15, h16, h17, h18, h19, h20, h21⟩ := h
    have g0 := bytes_ne h0
    have g1 := bytes_ne h1
    have g2 := bytes_ne h2
    have g3 := bytes_ne h3
    have g4 := bytes_ne h4
    have g5 := bytes_ne h5
    have g6 := bytes_ne h6
    have g7 := bytes_ne h7
    have g8 := bytes_ne h8
    have g9 := bytes_ne h9
    have g10 := bytes_ne h10
    have g11 := bytes_ne h11
    have g12 := bytes_ne h12
    have g13 := bytes_ne h13
    have g14 := bytes_ne h14
    have g15 := bytes_ne h15
    have g16 := bytes_ne h16
    have g17 := bytes_ne h17
    have g18 := bytes_ne h18
    have g19 := bytes_ne h19
    have g20 := bytes_ne h20
    have g21 := bytes_ne h21
    clear h0 h1 h2 h3 h4 h5 h6 h7 h8 h9 h10 h11 h12 h13 h14 h15 h16 h17 h18 h19 h20 h21
    go_enter Tryd.func110, Tryd.ntmps110
    go_wp2
    go_ret
    exact ⟨rfl, rfl⟩
/-- May a rune stand in a name (first: at its beginning)? -/
def ok1 (later : Bool) (r : Int) : Bool := letB r || (later && (digB r || r == 95))
/-- The runes of a name. -/
def nmR : List (Nat × Nat) → Bool
  | [] => true
  | p :: t => ok1 false p.1 && t.all fun q => ok1 true q.1
/-- Is it a name? -/
def nameB (s : ByteArray) : Bool := decide (s.size ≠ 0) && (decide (s.size ≤ 24) && (!kwB s && nmR (pcs s.data.toList)))

/-- Where Name's loop stands. -/
def NmRel (w : World) (s : ByteArray) (wr : World) : Prop :=
  ∃ k : Nat, k ≤ s.size ∧ wr.heap[w.heap.size]? = some (.stringIter s k) ∧ Below w.heap.size w wr ∧ (k ≠ 0 → nmR (pcs s.data.toList) = (pcs (s.data.toList.drop k)).all fun q => ok1 true q.1)
theorem nm_step {s : ByteArray} {k : Nat} (hp : k < s.size) (h : k ≠ 0 → nmR (pcs s.data.toList) = (pcs (s.data.toList.drop k)).all fun q => ok1 true q.1) :
    nmR (pcs s.data.toList) = (ok1 (decide (k ≠ 0)) ((Utf8.decode s k).1 : Nat) && (pcs (s.data.toList.drop (k + (Utf8.decode s k).2))).all fun q => ok1 true q.1) := by
  have hd := pcs_drop s.data.toList k (by simpa using hp)
  rw [← decode_dec] at hd
  by_cases hk : k = 0
  · subst hk
    rw [List.drop_zero] at hd
    rw [hd]
    rfl
  · rw [h hk, hd]
    simp [hk]
/-- It says so, and nothing old has turned. -/
def RetN (w : World) (b : Bool) (e : Ending) (w' : World) : Prop := e = .returned (.bool b) ∧ Below w.heap.size w w'

set_option maxRecDepth 100000 in
set_option maxHeartbeats 2000000 in
theorem name_any (s : ByteArray) (w : World) : Calls Tryd.prog 73 #[.string s] w (RetN w (nameB s)) := by
  by_cases h0 : s.size = 0
  · have hs : s = ⟨#[]⟩ := of_bytes (List.eq_nil_of_length_eq_zero (by simpa using h0))
    have hb : nameB s = false := by simp [nameB, h0]
    rw [hb]
    subst hs
    clear hb h0
    go_enter Tryd.func73, Tryd.ntmps73
    go_wp2
    go_ret
    exact ⟨rfl, Below.refl _ _⟩
  have hne : s.toList.isEmpty = false := by
    rw [ByteArray.toList_eq]
    simp only [List.isEmpty_eq_false_iff]
    intro e
    exact h0 (by simpa using congrArg List.length e)
  have H0 := Lib.hid h0
  by_cases h24 : 24 < s.size
  · have hb : nameB s = false := by simp [nameB]; omega
    rw [hb]
    clear hb h0
    go_enter Tryd.func73, Tryd.ntmps73
    go_wp2
    go_ret
    exact ⟨rfl, Below.refl _ _⟩
  have h24' : s.size ≤ 24 := by omega
  cases hk : kwB s
  · have hb : nameB s = nmR (pcs s.data.toList) := by simp [nameB, h0, h24', hk]
    rw [hb]
    have HK := Lib.hid (keyword_any s w)
    rw [hk] at HK
    clear hb h0 hk h24
    go_enter Tryd.func73, Tryd.ntmps73
    go_wp2_with fail
    refine HK.out.mono ?_
    rintro e w' ⟨rfl, rfl⟩
    go_wp2
    go_loopw [] (fun wr => NmRel w s wr) (fun wr => s.size - wr.iterPos w.heap.size)
    case atStart => exact ⟨0, by omega, World.iter_heap w s 0, (Below.refl _ _).alloc (Nat.le_refl _) _, fun h => absurd rfl h⟩
    case round =>
      obtain ⟨k, hk, hit, hB, he⟩ := hrel
      have HP := Lib.hid (iterPos_of hit)
      by_cases hp : k < s.size
      · have hst := nm_step hp he
        have hdl := dec_rune (s.data.toList.drop k)
        have hwd := dec_pos (s.data.toList.drop k)
        have hwl := dec_le (s.data.toList.drop k) (by intro e; have := congrArg List.length e; simp at this; omega)
        rw [← decode_dec] at hdl hwd hwl
        have hk2 : k + (Utf8.decode s k).2 ≤ s.size := by simp at hwl; omega
        have hnx : ∀ ty, (Instr.next (.pointer (some ⟨w.heap.size, 0, none⟩)) true ty).run Tryd.prog wr = _ := fun ty => Lib.run_next_any_at wr w.heap.size s k ty hit hp
        have hB2 := Lib.below_iterAt hB (k := w.heap.size) (Nat.le_refl _) s (k + (Utf8.decode s k).2)
        have hit2 := Lib.iterAt_heap wr w.heap.size s k (k + (Utf8.decode s k).2) hit
        obtain ⟨W1, hW1⟩ : ∃ W1, W1 = wr.iterAt w.heap.size s (k + (Utf8.decode s k).2) := ⟨_, rfl⟩
        rw [← hW1] at hnx hB2 hit2
        obtain ⟨r, hr⟩ : ∃ r, r = (Utf8.decode s k).1 := ⟨_, rfl⟩
        rw [← hr] at hnx hdl hst
        obtain ⟨m, hm⟩ : ∃ m, m = k + (Utf8.decode s k).2 := ⟨_, rfl⟩
        rw [← hm] at hit2 hk2 hst
        have hm0 : k < m := by omega
        have HB2 := Lib.hid hB2
        have HI2 := Lib.hid hit2
        have HST := Lib.hid hst
        have hm24 : m ≤ 24 := by omega
        clear hW1 hr hm hst hit hB hB2 hit2 he hwl hwd HK
        have good : ok1 (decide (k ≠ 0)) (r : Int) = true → NmRel w s W1 := fun h => by
          refine ⟨m, hk2, HI2.out, HB2.out, fun _ => ?_⟩
          rw [HST.out, h, Bool.true_and]
        have bad : ok1 (decide (k ≠ 0)) (r : Int) = false → RetN w (nmR (pcs s.data.toList)) (.returned (.bool false)) W1 := fun h => by
          rw [HST.out, h]
          exact ⟨rfl, HB2.out⟩
        have HG := Lib.hid good
        have HBd := Lib.hid bad
        have HL := Lib.hid (fun W => letter_any (r : Int) W)
        have HDg := Lib.hid (fun W => digit_any (r : Int) W)
        clear good bad
        cases hl : letB (r : Int)
        · rw [hl] at HL
          by_cases hk0 : k = 0
          · subst hk0
            have HY := Lib.hid (HBd.out (by simp [ok1, hl]))
            clear HBd HG hl
            go_wp2_with fail
            refine (HL.out _).mono ?_
            rintro e w' ⟨rfl, rfl⟩
            go_wp2
            go_ret
            exact HY.out
          · have hk0' : ((k : Int) == 0) = false := beq_eq_false_iff_ne.2 (by omega)
            cases hg : digB (r : Int)
            · rw [hg] at HDg
              by_cases h95 : r = 95
              · subst h95
                have HY := Lib.hid (HG.out (by simp [ok1, hk0]))
                clear HBd HG hl hg hk0
                go_wp2_with fail
                refine (HL.out _).mono ?_
                rintro e w' ⟨rfl, rfl⟩
                go_wp2_with fail
                refine (HDg.out _).mono ?_
                rintro e w' ⟨rfl, rfl⟩
                go_wp2
                go_roundw
                case rel => exact HY.out
                case measure =>
                  rw [iterPos_of HI2.out, HP.out]
                  omega
              · have h95' : ((r : Int) == 95) = false := beq_eq_false_iff_ne.2 (by omega)
                have h95n : ((r : Int) != 95) = true := by simp; omega
                have HY := Lib.hid (HBd.out (by simp [ok1, hl, hg]; omega))
                clear HBd HG hl hg hk0 h95 h95'
                go_wp2_with fail
                refine (HL.out _).mono ?_
                rintro e w' ⟨rfl, rfl⟩
                go_wp2_with fail
                refine (HDg.out _).mono ?_
                rintro e w' ⟨rfl, rfl⟩
                go_wp2
                go_ret
                exact HY.out
            · rw [hg] at HDg
              have HY := Lib.hid (HG.out (by simp [ok1, hk0, hg]))
              clear HBd HG hl hg hk0
              go_wp2_with fail
              refine (HL.out _).mono ?_
              rintro e w' ⟨rfl, rfl⟩
              go_wp2_with fail
              refine (HDg.out _).mono ?_
              rintro e w' ⟨rfl, rfl⟩
              go_wp2
              go_roundw
              case rel => exact HY.out
              case measure =>
                rw [iterPos_of HI2.out, HP.out]
                omega
        · rw [hl] at HL
          have HY := Lib.hid (HG.out (by simp [ok1, hl]))
          clear HBd HG hl HDg
          go_wp2_with fail
          refine (HL.out _).mono ?_
          rintro e w' ⟨rfl, rfl⟩
          go_wp2
          go_roundw
          case rel => exact HY.out
          case measure =>
            rw [iterPos_of HI2.out, HP.out]
            omega
      · have hnx : ∀ ty, (Instr.next (.pointer (some ⟨w.heap.size, 0, none⟩)) true ty).run Tryd.prog wr = _ := fun ty => Lib.run_next_end_at wr w.heap.size s k ty hit hp
        have HR : Hid (RetN w (nmR (pcs s.data.toList)) (.returned (.bool true)) wr) := Lib.hid (by
          rw [he (by have := H0.out; omega), pcs_end _ _ (by simpa using hp)]
          exact ⟨rfl, hB⟩)
        clear he
        go_wp2
        go_ret
        exact HR.out
  · have hb : nameB s = false := by simp [nameB, hk]
    rw [hb]
    have HK := Lib.hid (keyword_any s w)
    rw [hk] at HK
    clear hb h0 hk h24
    go_enter Tryd.func73, Tryd.ntmps73
    go_wp2_with fail
    refine HK.out.mono ?_
    rintro e w' ⟨rfl, rfl⟩
    go_wp2
    go_ret
    exact ⟨rfl, Below.refl _ _⟩
end Go.Proofs.YtacmibkcnmaagaaDoor
