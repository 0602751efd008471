/-
  The walk of the document's All. Conditions: its own premises.
-/
import Derived.Test.YtndagbmcdpafjaaDoorQLsA
import Derived.Test.YtndagbmcdpafjaaDoorQLsA
import Derived.Test.YtndagbmcdpafjaaDoorQLsD
import Derived.Test.YtndagbmcdpafjaaDoorQLsE
namespace Go.Proofs.YtndagbmcdpafjaaDoor
open Go.Shelf Go.RowKit Go.Lib

/-- How a token of the document lies. -/
def LU : Lie Tk := ⟨38, 4, fun t => [.int .i64 (t.kind : Int), .int .i64 (t.pos : Int), .string ⟨t.text.toArray⟩, .int .i64 (t.n : Int)], fun _ => rfl, fun _ u hu => by
  simp at hu
  rcases hu with rfl | rfl | rfl | rfl <;> rfl⟩
theorem LUat : LieAt Tryd.prog 28 LU := by
  have h : (Tryd.prog.info? 38).map (fun i => (i.zero, i.size, i.bytes)) = some (some (.agg #[.int .i64 0, .int .i64 0, .string { data := #[] }, .int .i64 0]), 4, 40) := by kernel_rfl
  obtain ⟨i0, hi, hz0, hz1, hz2⟩ := info_parts h
  exact ⟨Tryd.underlying28, ⟨i0, _, hi, hz0, hz1, by omega, rfl⟩, by decide⟩
/-- A fault of a text as the document has it. -/
def ftV : Option (Nat × Nat) → Value
  | none => fault 0 false false 0 0
  | some (c, p) => fault (101 + (c : Int)) true false (p : Int) 0
/-- What the document's All leaves. -/
def RetUl (w : World) (l : List Tk) (f : Option (Nat × Nat)) (e : Ending) (w' : World) : Prop := ∃ v, e = .returned (.tuple #[v, ftV f]) ∧ Ow LU w' w.heap.size v l ∧ Below w.heap.size w w'

set_option maxRecDepth 100000 in
set_option maxHeartbeats 4000000 in
theorem rall_bad (s : ByteArray) (p : Nat) (w : World) (hs : s.size ≤ 4096) (hb : badAt s p) : Calls Tryd.prog 9 #[.string s] w (RetUl w [] (some (4, p))) := by
  obtain ⟨W0, hW0⟩ : ∃ W0, W0 = w.alloc (.cells #[.int .i64 0, .bool false, .bool false, .int .i64 0, .int .i64 0] 30) := ⟨_, rfl⟩
  have hB0 : Below w.heap.size w W0 := by rw [hW0]; exact (Below.refl _ _).alloc (Nat.le_refl _) _
  have hr0 : Blk5 W0 w.heap.size 0 0 false := by rw [hW0]; exact heap_alloc_new w _
  have HV := Lib.hid (rvalid_any s W0 hs)
  have HB0 := Lib.hid hB0
  have HR0 := Lib.hid hr0
  have HBad := Lib.hid hb
  clear hB0 hr0 hb
  go_enter Tryd.func9, Tryd.ntmps9
  go_wp2_with fail
  rw [← hW0]
  clear hW0
  refine HV.out.mono ?_
  rintro e w1 ⟨hB1, ⟨hn, rfl⟩ | ⟨q, hq, rfl⟩⟩
  · exact absurd hn (badAt_not HBad.out)
  · obtain rfl := badAt_one hq HBad.out
    have HR1 := Lib.hid (HR0.out.below hB1 HR0.out.lt)
    have HB1 := Lib.hid (HB0.out.trans (hB1.mono HB0.out.size))
    clear hB1 hq HV HR0 HB0 HBad
    obtain ⟨⟨b0, b1, b2, b3, b4⟩, f0, f1, f2, f3, f4⟩ := blk5 HR1.out
    have hlt : w.heap.size < w1.heap.size := HR1.out.lt
    have HF := Lib.hid (set5_blk HR1.out 105 (q : Int) true)
    have HBF := Lib.hid (((set5_below HB1.out (Nat.le_refl _) 105 (q : Int) true).alloc (by rw [show (set5 w1 w.heap.size 105 (q : Int) true).heap.size = w1.heap.size by simp [set5]]; omega) (.cells #[.int .i64 105, .bool true, .bool false, .int .i64 (q : Int), .int .i64 0] 30)).drew)
    obtain ⟨WF, hWF⟩ : ∃ WF, WF = ((set5 w1 w.heap.size 105 (q : Int) true).alloc (.cells #[.int .i64 105, .bool true, .bool false, .int .i64 (q : Int), .int .i64 0] 30)).drew := ⟨_, rfl⟩
    have HFl : Hid (Blk5 WF w.heap.size 105 (q : Int) true) := Lib.hid (by rw [hWF]; exact HF.out.alloc _)
    rw [← hWF] at HBF
    unfold set5 at hWF
    have n1 : ¬ w1.heap.size = w.heap.size := by omega
    have n2 : ¬ w.heap.size = w1.heap.size := by omega
    go_wp2
    go_region
    all_goals
      rw [← hWF]
      obtain ⟨⟨d0, d1, d2, d3, d4⟩, _⟩ := blk5 HFl.out
      go_wp2
      exact bodyPost_ret (v := .tuple #[.slice none 0 0, fault 105 true false (q : Int) 0]) (by simp [results, Tryd.results9, go_sem, d0, d1, d2, d3, d4]) rfl ⟨_, rfl, Ow.nil _ _ _, HBF.out⟩
end Go.Proofs.YtndagbmcdpafjaaDoor
