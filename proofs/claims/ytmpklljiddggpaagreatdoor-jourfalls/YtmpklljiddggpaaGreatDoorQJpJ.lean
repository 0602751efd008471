/-
  What pendulumsee.Is says of a store's answer. Conditions: each theorem's own premises.
-/
import Derived.Test.YtmpklljiddggpaaGreatDoorQJpA
import Derived.Test.YtmpklljiddggpaaGreatDoorQDkSee
import Derived.Test.YtmpklljiddggpaaGreatDoorQNumb
namespace Go.Proofs.YtmpklljiddggpaaGreatDoor
open Go.Shelf Go.RowKit Go.Lib Go.Sort
attribute [local go_sem] Oper.semAt_some

theorem es_of {w : World} {ads : List Addr} (h : Sents w ads) : Es w (ads.getD 3 default) (ads.getD 18 default) (ads.getD 17 default) (ads.getD 2 default) :=
  have at_ : ∀ i (hi : i < 21), ads[i]? = some (ads.getD i default) := fun i hi => by rw [List.getD_eq_getElem?_getD]; rw [List.getElem?_eq_getElem (by rw [h.len]; exact hi)]; rfl
  ⟨(h.at_ 3 _ _ rfl (at_ 3 (by omega))).cell, (h.at_ 18 _ _ rfl (at_ 18 (by omega))).cell, (h.at_ 17 _ _ rfl (at_ 17 (by omega))).cell, (h.at_ 2 _ _ rfl (at_ 2 (by omega))).cell⟩
theorem errs_of {w : World} {ads : List Addr} (h : Sents w ads) : Errs w (ads.getD 0 default) (ads.getD 1 default) (ads.getD 3 default) :=
  have at_ : ∀ i (hi : i < 21), ads[i]? = some (ads.getD i default) := fun i hi => by rw [List.getD_eq_getElem?_getD]; rw [List.getElem?_eq_getElem (by rw [h.len]; exact hi)]; rfl
  ⟨(h.at_ 0 _ _ rfl (at_ 0 (by omega))).cell, (h.at_ 1 _ _ rfl (at_ 1 (by omega))).cell, (h.at_ 3 _ _ rfl (at_ 3 (by omega))).cell⟩
theorem ads_at {w : World} {ads : List Addr} (h : Sents w ads) (i : Nat) (hi : i < 21) : ads[i]? = some (ads.getD i default) := by
  rw [List.getD_eq_getElem?_getD, List.getElem?_eq_getElem (by rw [h.len]; exact hi)]
  rfl
/-- What Is says of a store's answer. -/
def codeR : Res → Int
  | .fine => 0
  | .range => 104
  | .many => 103
  | .full => 118
  | .crash => 119
theorem is_res (w : World) (ads : List Addr) (x : Res) (h : Sents w ads) : Calls Tryz.prog 13 #[resV (ads.getD 3 default) (ads.getD 18 default) (ads.getD 17 default) (ads.getD 2 default) x, .int .i64 (codeR x)] w (RetB w (.bool true)) := by
  cases x
  · exact is_nil w
  · exact is_err w ads 3 _ _ (by simp [codeR]) h (ads_at h 3 (by omega))
  · exact is_err w ads 2 _ _ (by simp [codeR]) h (ads_at h 2 (by omega))
  · exact is_err w ads 17 _ _ (by simp [codeR]) h (ads_at h 17 (by omega))
  · exact is_err w ads 18 _ _ (by simp [codeR]) h (ads_at h 18 (by omega))
theorem Sto.sents {w0 w : World} {n K g f m sb : Nat} {v : Value} {t : St} {ads : List Addr} (H : Sto w0 w n K g f m sb v t) (h : Sents w0 ads) : Sents w ads := h.later H.un
end Go.Proofs.YtmpklljiddggpaaGreatDoor
