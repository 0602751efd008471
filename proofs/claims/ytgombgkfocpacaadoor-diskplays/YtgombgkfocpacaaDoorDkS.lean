/-
  The sorted keys of a map of pending sectors, and a map's copy. Conditions: each theorem's own premises.
-/
import Derived.Test.YtgombgkfocpacaaDoorShf
import Derived.Test.YtgombgkfocpacaaDoorDkA
namespace Go.Proofs.YtgombgkfocpacaaDoor
open Go.RowKit Go.Maps Go.Sort Go.Shelf

theorem sorts (m : Nat) : AnyZI.SortsIn Tryd.prog Tryd.sortedA_ren Fence.wide m :=
  ⟨fun blk off cap ss W hH hblk hsz => callsIn_wide.2 (AnyM.slices_Sort_int Tryd.sortA blk off cap ss W hH hblk hsz),
   fun p cap W => callsIn_wide.2 (AnyM.slices_Sort_int_none Tryd.sortA p cap W)⟩

theorem keys_any (mb : Option Nat) (w : World) :
    Calls Tryd.prog 41 #[.map mb] w fun e w' =>
      e = .returned (.func (.func 49) #[] #[.pointer (some ⟨w.heap.size, 0, none⟩)]) ∧ w' = w.alloc (.cells #[.map mb] 62) :=
  (callsIn_wide (n := 5)).1 (AnyZI.keys_in Tryd.keysA Fence.wide 5 trivial rfl mb w)

/-- slices.Sorted of the keys: a new slice of them, rising. -/
theorem sorted_any (n b nn c : Nat) (p : Pend) (w : World) (hok : OkP n p) (hn : n ≤ 16384) (hown : w.ownsMap Tryd.prog 3 contR b nn (toD p)) (hcl : c < w.heap.size) (hc : w.cell? ⟨c, 0, none⟩ = some (.map (some b))) :
    Calls Tryd.prog 40 #[.func (.func 49) #[] #[.pointer (some ⟨c, 0, none⟩)]] w fun e w' => ∃ v : Value, e = .returned v ∧
      w'.ownsRow w.heap.size 3 1 v p.length (p.map fun x => .int .i64 x.1) ∧ Below w.heap.size w w' := by
  have hlen := hok.length
  have hsz := size_toD p
  refine (callsIn_wide (n := 5)).1 ?_
  have hseq : SeqGives Fence.wide 2 Tryd.prog 49 #[.pointer (some ⟨c, 0, none⟩)] encZ (fun ss => ss.Perm (intKeys (toD p))) (Maps.size (toD p)) w :=
    AnyZI.keys_gives (ρ := Tryd.keysA_ren) { Tryd.keysA with } Fence.wide _ trivial rfl (by omega) c b nn (toD p) w hcl hc hown
  have cS := AnyZI.sorted_in Tryd.sortedA Fence.wide 5 trivial trivial trivial trivial rfl (by omega) (sorts _) (enters_of Tryd.func48 (by kernel_rfl) rfl) 49 #[.pointer (some ⟨c, 0, none⟩)] trivial (enters_of Tryd.func49 (by kernel_rfl) rfl) _ _ (by rw [hsz]; simp [maxLen]; omega) (by rw [hsz]; omega) _ hseq
  change CallsIn _ _ Tryd.prog 40 _ _ _ at cS
  refine cS.mono ?_
  rintro e w' ⟨v, ss, rfl, hS, hrow, _, hb⟩
  rw [sorted_keys hok hS, hS.length_eq, keys_toD, List.length_map, List.map_map] at hrow
  exact ⟨v, rfl, hrow, hb⟩

theorem copy_any (b n : Nat) (D : DataW Unit) (w : World) (hown : w.ownsMap Tryd.prog 3 contR b n D) :
    Calls Tryd.prog 34 #[.map (some b)] w fun e w' =>
      e = .returned (.map (some w.heap.size)) ∧ w'.ownsMap Tryd.prog 3 contR w.heap.size n D ∧ w'.ownsMap Tryd.prog 3 contR b n D ∧ Below w.heap.size w w' ∧ w.heap.size < w'.heap.size :=
  (AnyW.maps_Clone_owns Tryd.cloneA 3 contR b n D w hown).mono fun _ _ ⟨h1, h2, h3, h4⟩ => ⟨h1, h2, h3, h4, h2.lt⟩
end Go.Proofs.YtgombgkfocpacaaDoor
