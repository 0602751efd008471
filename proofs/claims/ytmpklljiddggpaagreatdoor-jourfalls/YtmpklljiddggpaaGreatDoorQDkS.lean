/-
  The sorted keys of a map of pending sectors, and a map's copy. Conditions: each theorem's own premises.
-/
import Derived.Test.YtmpklljiddggpaaGreatDoorQShf
import Derived.Test.YtmpklljiddggpaaGreatDoorQDkA
namespace Go.Proofs.YtmpklljiddggpaaGreatDoor
open Go.RowKit Go.Maps Go.Sort Go.Shelf

theorem sorts (m : Nat) : AnyZI.SortsIn Tryz.prog Tryz.sortedA_ren Fence.wide m :=
  ⟨fun blk off cap ss W hH hblk hsz => callsIn_wide.2 (AnyM.slices_Sort_int Tryz.sortA blk off cap ss W hH hblk hsz),
   fun p cap W => callsIn_wide.2 (AnyM.slices_Sort_int_none Tryz.sortA p cap W)⟩

theorem mapkeys_any (mb : Option Nat) (w : World) :
    Calls Tryz.prog 33 #[.map mb] w fun e w' =>
      e = .returned (.func (.func 59) #[] #[.pointer (some ⟨w.heap.size, 0, none⟩)]) ∧ w' = w.alloc (.cells #[.map mb] 60) :=
  (callsIn_wide (n := 5)).1 (AnyZI.keys_in Tryz.keysA Fence.wide 5 trivial rfl mb w)

/-- slices.Sorted of the keys: a new slice of them, rising. -/
theorem sorted_any (n b nn c : Nat) (p : Pend) (w : World) (hok : OkP n p) (hn : n ≤ 16384) (hown : w.ownsMap Tryz.prog 3 contR b nn (toD p)) (hcl : c < w.heap.size) (hc : w.cell? ⟨c, 0, none⟩ = some (.map (some b))) :
    Calls Tryz.prog 32 #[.func (.func 59) #[] #[.pointer (some ⟨c, 0, none⟩)]] w fun e w' => ∃ v : Value, e = .returned v ∧
      w'.ownsRow w.heap.size 3 1 v p.length (p.map fun x => .int .i64 x.1) ∧ Below w.heap.size w w' := by
  have hlen := hok.length
  have hsz := size_toD p
  refine (callsIn_wide (n := 5)).1 ?_
  have hseq : SeqGives Fence.wide 2 Tryz.prog 59 #[.pointer (some ⟨c, 0, none⟩)] encZ (fun ss => ss.Perm (intKeys (toD p))) (Maps.size (toD p)) w :=
    AnyZI.keys_gives (ρ := Tryz.keysA_ren) { Tryz.keysA with } Fence.wide _ trivial rfl (by omega) c b nn (toD p) w hcl hc hown
  have cS := AnyZI.sorted_in Tryz.sortedA Fence.wide 5 trivial trivial trivial trivial rfl (by omega) (sorts _) (enters_of Tryz.func58 (by kernel_rfl) rfl) 59 #[.pointer (some ⟨c, 0, none⟩)] trivial (enters_of Tryz.func59 (by kernel_rfl) rfl) _ _ (by rw [hsz]; simp [maxLen]; omega) (by rw [hsz]; omega) _ hseq
  change CallsIn _ _ Tryz.prog 32 _ _ _ at cS
  refine cS.mono ?_
  rintro e w' ⟨v, ss, rfl, hS, hrow, _, hb⟩
  rw [sorted_keys hok hS, hS.length_eq, keys_toD, List.length_map, List.map_map] at hrow
  exact ⟨v, rfl, hrow, hb⟩

end Go.Proofs.YtmpklljiddggpaaGreatDoor
