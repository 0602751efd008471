/-
  The walks of the lexer's Words, Is, isSign, fail. Conditions: each theorem's own premises.
-/
import Derived.Test.YtndagbmcdpafjaaDoorQLxC
import Derived.Test.YtndagbmcdpafjaaDoorQDkSee
namespace Go.Proofs.YtndagbmcdpafjaaDoor
open Go.Shelf Go.RowKit Go.Lib

set_option maxRecDepth 100000 in
set_option maxHeartbeats 400000 in
theorem lwords_any (w : World) : Calls Tryd.prog 132 #[] w fun e w' => e = .returned (.slice (some ⟨w.heap.size, 0, none⟩) 22 22) ∧ w' = w.alloc (.cells (wordC.map Value.string).toArray 9) := by
  go_enter Tryd.func132, Tryd.ntmps132
  go_wp2
  go_ret
  exact ⟨rfl, rfl⟩
set_option maxRecDepth 100000 in
set_option maxHeartbeats 400000 in
theorem index_any (A : Option Addr) (len cap : Nat) (l : List ByteArray) (s : ByteArray) (w : World) (hl : len = l.length) (hz : len ≤ 1000) (hA : Txs w A l) :
    Calls Tryd.prog 140 #[.slice A len cap, .string s] w (RetAm w l s) := by
  have HL := Lib.hid hl
  have HA := Lib.hid hA
  clear hl hA
  go_enter Tryd.func140, Tryd.ntmps140
  go_wp2
  go_loop [8] (fun i => ∃ k : Nat, k ≤ len ∧ i = .int .i64 (k : Int) ∧ ∀ j t, j < k → l[j]? = some t → t.data.toList ≠ s.data.toList) (fun i => len - (intOf i).toNat)
  case atStart => exact ⟨0, by omega, rfl, fun j t hj => by omega⟩
  case round =>
    obtain ⟨k, hk, rfl, hno⟩ := hrel
    have HNo := Lib.hid hno
    clear hno
    by_cases hp : k < len
    · have hkl : k < l.length := by have := HL.out; omega
      obtain ⟨ad, rfl, hc⟩ := HA.out.here k l[k] (List.getElem?_eq_getElem hkl)
      obtain ⟨t, ht⟩ : ∃ t, t = l[k] := ⟨_, rfl⟩
      rw [← ht] at hc
      have HT := Lib.hid ht
      clear ht
      by_cases he : t.data.toList = s.data.toList
      · have he' : (s.toList == t.toList) = true := by rw [ByteArray.toList_eq, ByteArray.toList_eq]; exact beq_iff_eq.2 he.symm
        have HE : Hid (s.data.toList ∈ l.map (·.data.toList)) := Lib.hid (List.mem_map.2 ⟨t, by rw [HT.out]; exact List.getElem_mem hkl, he⟩)
        clear he
        go_wp2
        go_ret
        exact ⟨rfl, .inl ⟨HE.out, k, by omega, rfl⟩⟩
      · have he' : (s.toList == t.toList) = false := by rw [ByteArray.toList_eq, ByteArray.toList_eq]; exact beq_eq_false_iff_ne.2 (fun h => he h.symm)
        have HE := Lib.hid he
        clear he
        go_wp2
        go_round
        case rel =>
          refine ⟨k + 1, by omega, by go_num, fun j u hj hu => ?_⟩
          rcases (by omega : j < k ∨ j = k) with h | rfl
          · exact HNo.out j u h hu
          · rw [List.getElem?_eq_getElem hkl] at hu
            cases hu
            rw [← HT.out]
            exact HE.out
        case measure => simp [intOf]; omega
    · have HE : Hid (s.data.toList ∉ l.map (·.data.toList)) := Lib.hid (by
        intro hm
        obtain ⟨t, ht, he⟩ := List.mem_map.1 hm
        obtain ⟨j, hj⟩ := List.mem_iff_getElem?.1 ht
        exact HNo.out j t (by have := (List.getElem?_eq_some_iff.1 hj).1; have := HL.out; omega) hj he)
      go_wp2
      go_ret
      exact ⟨rfl, .inr ⟨HE.out, rfl⟩⟩
/-- Is a text among texts? -/
def amB (l : List ByteArray) (s : ByteArray) : Bool := decide (s.data.toList ∈ l.map (·.data.toList))
set_option maxHeartbeats 400000 in
theorem contains_any (A : Option Addr) (len cap : Nat) (l : List ByteArray) (s : ByteArray) (w : World) (hl : len = l.length) (hz : len ≤ 1000) (hA : Txs w A l) :
    Calls Tryd.prog 131 #[.slice A len cap, .string s] w (RetKb w (amB l s)) := by
  have HI := Lib.hid (index_any A len cap l s w hl hz hA)
  have h2 : Calls Tryd.prog 140 #[.slice A len cap, .string s] w fun e w' => w = w' ∧ ∃ v : Int, e = .returned (.int .i64 v) ∧ decide (0 ≤ v) = amB l s ∧ v ≤ 1000 :=
    HI.out.mono fun e w' h => ⟨h.1, by
      rcases h.2 with ⟨h1, v, hv, rfl⟩ | ⟨h1, rfl⟩
      · exact ⟨v, rfl, by unfold amB; rw [decide_eq_true h1]; simp, by omega⟩
      · exact ⟨-1, rfl, by unfold amB; rw [decide_eq_false h1]; rfl, by omega⟩⟩
  have H2 := Lib.hid h2
  obtain ⟨b, hb⟩ : ∃ b, b = amB l s := ⟨_, rfl⟩
  rw [← hb] at H2 ⊢
  clear HI h2 hb hl hz hA
  go_enter Tryd.func131, Tryd.ntmps131
  go_wp2_with fail
  refine H2.out.mono ?_
  rintro e w' ⟨rfl, v, rfl, hv, _⟩
  have HV := Lib.hid hv
  clear hv
  go_wp2
  go_ret
  refine ⟨?_, rfl⟩
  rw [← HV.out]
  rfl
theorem am_kw (s : ByteArray) : amB wordC s = kwB s := by
  unfold amB kwB
  rw [wordC_kws]
set_option maxRecDepth 100000 in
set_option maxHeartbeats 400000 in
theorem lis_any (s : ByteArray) (w : World) : Calls Tryd.prog 118 #[.string s] w (RetN w (kwB s)) := by
  have HW := Lib.hid (lwords_any w)
  have hT : Txs (w.alloc (.cells (wordC.map Value.string).toArray 9)) (some ⟨w.heap.size, 0, none⟩) wordC := ⟨fun k t ht => ⟨_, rfl, by
    rw [lit_add]
    unfold World.cell?
    show (match (w.alloc (.cells (wordC.map Value.string).toArray 9)).heap[w.heap.size]? with | some (.cells c _ _) => c[k]? | _ => none) = _
    rw [World.alloc_heap_new]
    simp [ht]⟩⟩
  have HA := Lib.hid (contains_any _ 22 22 wordC s _ rfl (by decide) hT)
  have HB : Hid (Below w.heap.size w (w.alloc (.cells (wordC.map Value.string).toArray 9))) := Lib.hid ((Below.refl _ w).alloc (Nat.le_refl _) _)
  generalize w.alloc (.cells (wordC.map Value.string).toArray 9) = W1 at *
  clear hT
  obtain ⟨b, hb⟩ : ∃ b, b = kwB s := ⟨_, rfl⟩
  have HA2 : Hid (Calls Tryd.prog 131 #[.slice (some ⟨w.heap.size, 0, none⟩) 22 22, .string s] W1 (RetKb W1 b)) := Lib.hid (by rw [hb, ← am_kw]; exact HA.out)
  rw [← hb]
  clear HA hb
  go_enter Tryd.func118, Tryd.ntmps118
  go_wp2_with fail
  refine HW.out.mono ?_
  rintro e w1 ⟨rfl, rfl⟩
  go_wp2_with fail
  refine HA2.out.mono ?_
  rintro e w2 ⟨rfl, rfl⟩
  go_wp2
  go_ret
  exact ⟨rfl, HB.out⟩

/-- The signs. -/
def sgL : List (List UInt8) := [[40], [41], [44], [58], [59], [61], [60, 62], [60], [60, 61], [62], [62, 61], [43], [45], [42], [47], [45, 62]]
set_option maxRecDepth 100000 in
set_option maxHeartbeats 4000000 in
theorem isSign_any (s : ByteArray) (w : World) : Calls Tryd.prog 120 #[.string s] w (RetKb w (decide (s.data.toList ∈ sgL))) := by
  by_cases h : s.data.toList ∈ sgL
  · rw [decide_eq_true h]
    simp only [sgL, List.mem_cons, List.not_mem_nil, or_false] at h
    rcases h with h | h | h | h | h | h | h | h | h | h | h | h | h | h | h | h
    all_goals
      obtain rfl := of_bytes h
      clear h
      go_enter Tryd.func120, Tryd.ntmps120
      go_wp2
      go_ret
      exact ⟨rfl, rfl⟩
  · rw [decide_eq_false h]
    simp only [sgL, List.mem_cons, List.not_mem_nil, or_false, not_or] at h
    obtain ⟨h0, h1, h2, h3, h4, h5, h6, h7, h8, h9, h10, h11, h12, h13, h14, h15⟩ := h
    have g0 := bytes_ne h0
    have g1 := bytes_ne h1
    have g2 := bytes_ne h2
    have g3 := bytes_ne h3
    have g4 := bytes_ne h4
    have g5 := bytes_ne h5
    have g6 := bytes_ne h6
    have g7 := bytes_ne h7
    have g8 := bytes_ne h8
    have g9 := bytes_ne h9
    have g10 := bytes_ne h10
    have g11 := bytes_ne h11
    have g12 := bytes_ne h12
    have g13 := bytes_ne h13
    have g14 := bytes_ne h14
    have g15 := bytes_ne h15
    clear h0 h1 h2 h3 h4 h5 h6 h7 h8 h9 h10 h11 h12 h13 h14 h15
    go_enter Tryd.func120, Tryd.ntmps120
    go_wp2
    go_ret
    exact ⟨rfl, rfl⟩

/-- A token as a value. -/
def tkV (t : Tk) : Value := .agg #[.int .i64 (t.kind : Int), .int .i64 (t.pos : Int), .string ⟨t.text.toArray⟩, .int .i64 (t.n : Int)]
/-- The errors that the lexer tells, as they lie: er tells where each is. -/
structure Lerr (w : World) (er : Nat → Addr) : Prop where
  many : w.cell? ⟨1, 0, none⟩ = some (.iface 186 (.pointer (some (er 2))))
  rune : w.cell? ⟨4, 0, none⟩ = some (.iface 186 (.pointer (some (er 4))))
  numb : w.cell? ⟨5, 0, none⟩ = some (.iface 186 (.pointer (some (er 6))))
  rng : ∃ te pe, w.cell? ⟨23, 0, none⟩ = some (.iface te pe)
theorem Lerr.below {w w' : World} {er : Nat → Addr} (h : Lerr w er) (hb : Below w.heap.size w w') : Lerr w' er := by
  obtain ⟨te, pe, hr⟩ := h.rng
  exact ⟨(hb.cell (World.block_lt_of_cell? w _ h.many)).trans h.many, (hb.cell (World.block_lt_of_cell? w _ h.rune)).trans h.rune, (hb.cell (World.block_lt_of_cell? w _ h.numb)).trans h.numb, te, pe, (hb.cell (World.block_lt_of_cell? w _ hr)).trans hr⟩
/-- What reading leaves. -/
def RetRd (w : World) (er : Nat → Addr) (x : Rd) (e : Ending) (w' : World) : Prop :=
  Below w.heap.size w w' ∧ match x with
    | .tok t k => e = .returned (.tuple #[tkV t, .int .i64 (k : Int), .nilIface])
    | .bad c p => ∃ b, w.heap.size ≤ b ∧ e = .returned (.tuple #[tkV ⟨0, 0, [], 0⟩, .int .i64 0, .iface 85 (.pointer (some ⟨b, 0, none⟩))]) ∧ Blk w' b 87 #[.int .i64 (p : Int), .iface 186 (.pointer (some (er c)))]
set_option maxHeartbeats 400000 in
theorem fail_any (p : Nat) (a : Addr) (w : World) : Calls Tryd.prog 117 #[.int .i64 (p : Int), .iface 186 (.pointer (some a))] w fun e w' =>
    Below w.heap.size w w' ∧ ∃ b, w.heap.size ≤ b ∧ e = .returned (.tuple #[tkV ⟨0, 0, [], 0⟩, .int .i64 0, .iface 85 (.pointer (some ⟨b, 0, none⟩))]) ∧ Blk w' b 87 #[.int .i64 (p : Int), .iface 186 (.pointer (some a))] := by
  go_enter Tryd.func117, Tryd.ntmps117
  go_wp2
  exact bodyPost_ret (v := .tuple #[tkV ⟨0, 0, [], 0⟩, .int .i64 0, .iface 85 (.pointer (some ⟨w.heap.size + 1, 0, none⟩))]) (by simp [results, Tryd.results117, go_sem, tkV]) rfl
    ⟨((Below.refl _ _).alloc (Nat.le_refl _) _).alloc (by simp) _, _, by omega, rfl, by have := heap_alloc_new (w.alloc (.cells #[.int .i64 0, .int .i64 0, .string { data := #[] }, .int .i64 0] 37)) (.cells #[.int .i64 (p : Int), .iface 186 (.pointer (some a))] 87); rwa [World.size_alloc] at this⟩
end Go.Proofs.YtndagbmcdpafjaaDoor
