/-
  A disk and a store, whatever becomes of the power: what the statements call on them, and what is left. Conditions: each theorem's own premises.
-/
import Derived.Test.YtmpklljiddggpaaGreatDoorQJpP
namespace Go.Proofs.YtmpklljiddggpaaGreatDoor
open Go.Shelf Go.RowKit Go.Lib Go.Sort
attribute [local go_sem] Oper.semAt_some

/-- A disk of n sectors that a statement has made since the world w0; at most K calls so far. -/
structure Dsk (w0 w : World) (n K g f m : Nat) (s : DS) : Prop where
  dk : Dk w g f m s
  len : s.kept.length = n
  calls : 0 ≤ s.calls ∧ s.calls ≤ (K : Int)
  lo : w0.heap.size ≤ g ∧ w0.heap.size ≤ f ∧ w0.heap.size ≤ m
  un : Below w0.heap.size w0 w
/-- And a store on it. -/
structure Fst (w0 w : World) (n K g f m sb : Nat) (v : Value) (t : St) : Prop where
  jr : Jr w w0.heap.size g f m sb v t
  ds : Dsk w0 w n K g f m t.s
  sbl : w0.heap.size ≤ sb
section
variable {w0 w w' : World} {n K g f m sb : Nat} {v : Value} {t : St} {s : DS} {aE aS aR aC aF aM : Addr}
theorem Dsk.below (H : Dsk w0 w n K g f m s) (hb : Below w.heap.size w w') : Dsk w0 w' n K g f m s := ⟨H.dk.below hb, H.len, H.calls, H.lo, H.un.trans (hb.mono H.un.size)⟩
theorem Fst.below (H : Fst w0 w n K g f m sb v t) (hb : Below w.heap.size w w') : Fst w0 w' n K g f m sb v t := ⟨H.jr.below hb, H.ds.below hb, H.sbl⟩
theorem Sto.fst (H : Sto w0 w n K g f m sb v t) : Fst w0 w n K g f m sb v t := ⟨H.jr, ⟨H.jr.dk, H.ok.len, H.ok.calls, ⟨H.lo.1, H.lo.2.1, H.lo.2.2.1⟩, H.un⟩, H.lo.2.2.2⟩
theorem un_fr {S : List Nat} (h : Below w0.heap.size w0 w) (f : Fr S w w') (hS : ∀ x ∈ S, w0.heap.size ≤ x) : Below w0.heap.size w0 w' := h.trans (f.below h.size hS)
theorem Dk.armed (h : Dk w g f m s) {a : Int} {c : Nat} (hH : Head w' g f m s.kept.length c s.calls a s.down) (hc : s.kept.length ≤ c ∧ c ≤ maxLen) (k : Fr [g] w w') : Dk w' g f m { s with armed := a } :=
  ⟨⟨c, hH, hc.1, hc.2⟩, h.row.fr k (by simp [h.fg]), owns_fr h.map k (by simp [h.mg]), h.ok, h.n1, h.nm, h.small, h.fg⟩
theorem Dsk.arming (H : Dsk w0 w n K g f m s) (a : Int) : Calls Tryz.prog 8 #[.pointer (some ⟨g, 0, none⟩), .int .i64 a] w fun e w' => e = .returned (.tuple #[]) ∧ Fr [g] w w' ∧ Dsk w0 w' n K g f m { s with armed := a } := by
  obtain ⟨c, hH, h1, h2⟩ := H.dk.head
  refine (arm_head g f m _ c _ _ a _ w hH).mono ?_
  rintro e w' ⟨rfl, hH', hF⟩
  exact ⟨rfl, hF, H.dk.armed hH' ⟨h1, h2⟩ hF, H.len, H.calls, H.lo, un_fr H.un hF (by simp; exact H.lo.1)⟩
theorem Fst.arming (H : Fst w0 w n K g f m sb v t) (a : Int) : Calls Tryz.prog 8 #[.pointer (some ⟨g, 0, none⟩), .int .i64 a] w fun e w' => e = .returned (.tuple #[]) ∧ Fr [g] w w' ∧ Fst w0 w' n K g f m sb v ⟨{ t.s with armed := a }, t.h, t.r⟩ := by
  refine (H.ds.arming a).mono ?_
  rintro e w' ⟨rfl, hF, hD⟩
  exact ⟨rfl, hF, ⟨hD.dk, Blk.fr H.jr.st hF (by simp [H.jr.sd.1]), H.jr.own.fr hF (fun q hq hx => H.jr.ne q hq (by simp at hx; simp [hx])), H.jr.sd, H.jr.ne⟩, hD, H.sbl⟩
theorem Dsk.downs (H : Dsk w0 w n K g f m s) : Calls Tryz.prog 12 #[.pointer (some ⟨g, 0, none⟩)] w fun e w' => e = .returned (.bool s.down) ∧ w' = w := by
  obtain ⟨c, hH, _⟩ := H.dk.head
  exact down_head g f m _ c _ _ _ w hH
theorem Dsk.crashes (H : Dsk w0 w n K g f m s) {A : Option Addr} {c : Nat} {zs : List Int} (hz : Ints w0 w0.heap.size A zs) : Calls Tryz.prog 16 #[.pointer (some ⟨g, 0, none⟩), .slice A zs.length c] w fun e w' => e = .returned (.tuple #[]) ∧ ∃ m', Fr [g, f] w w' ∧ Dsk w0 w' n K g f m' (crashD s zs) := by
  refine (crash_any g f m s w0.heap.size A _ c zs w H.dk (hz.keep fun p _ hp => H.un.cell hp) rfl H.un.size (fun ad _ hb => by have := H.lo.2.1; omega)).mono ?_
  rintro e w' ⟨rfl, m', hm, hD, hF⟩
  have h1 := H.lo
  have h2 := H.un.size
  exact ⟨rfl, m', hF, hD, by show (crashK _ _ _).length = _; rw [crashK_length]; exact H.len, H.calls, by omega, un_fr H.un hF (by simp; exact ⟨h1.1, h1.2.1⟩)⟩
theorem Dsk.opens (H : Dsk w0 w n K g f m s) {h : Hd} {r : List Chg} (hI : Inv s h r) (he : Errs w0 aE aS aR) (hE : Es w0 aR aC aF aM) (hK : K < 1000000000) :
    Calls Tryz.prog 17 #[.pointer (some ⟨g, 0, none⟩)] w fun e w' => ∃ sb v, e = .returned (.tuple #[.pointer (some ⟨sb, 0, none⟩), .nilIface]) ∧ Below w.heap.size w w' ∧ Fst w0 w' n K g f m sb v ⟨s, h, r⟩ := by
  refine (open_any h g f m s r w aE aS aR aC aF aM H.dk hI (he.below H.un (Nat.le_refl _)) (hE.fr ((Fr.refl [] w0).belows H.un (Nat.le_refl _)) (by simp)) (by have := H.calls; omega)).mono fun e w' h => ?_
  obtain ⟨sb, v, rfl, h1, hJ, hB⟩ := h.jr H.dk
  have := H.un.size
  exact ⟨sb, v, rfl, hB, ⟨hJ.dk, hJ.st, hJ.own.mono H.un.size, hJ.sd, hJ.ne⟩, H.below hB, by omega⟩
/-- What a call that writes leaves. -/
def RetFs (w0 w : World) (n K g f m sb : Nat) (aR aC aF aM : Addr) (x : Res × St) (e : Ending) (w' : World) : Prop :=
  ∃ m' v', e = .returned (resV aR aC aF aM x.1) ∧ Fr [g, f, m, sb] w w' ∧ Fst w0 w' n (K + n + 3) g f m' sb v' x.2
theorem RetFs.of {x : Res × St} {e : Ending} {r' : List Chg} (h : RetCo w w0.heap.size g f m sb aR aC aF aM x e w') (H : Fst w0 w n K g f m sb v t) (D : Did t r' x) : RetFs w0 w n K g f m sb aR aC aF aM x e w' := by
  obtain ⟨m', v', h1, h2, h3, h4⟩ := h
  have hs := H.ds.un.size
  have hl := H.ds.lo
  have hsb := H.sbl
  have hc := H.ds.calls
  have hc2 := D.calls
  have hn := D.len
  have hn2 := H.ds.len
  exact ⟨m', v', h2, h3, h4, ⟨h4.dk, by omega, by omega, by omega, un_fr H.ds.un h3 (by simp; omega)⟩, hsb⟩
theorem Fst.bd (H : Fst w0 w n K g f m sb v t) (hI : Inv' t) (hK : K < 1000000000) (ha : 0 ≤ t.s.armed ∧ t.s.armed ≤ 1000) : Bd t := ⟨hI, by omega, by have := H.ds.calls; omega⟩
theorem Fst.commit (H : Fst w0 w n K g f m sb v t) (hI : Inv' t) (he : Errs w0 aE aS aR) (hE : Es w0 aR aC aF aM) (hn : 1 ≤ n) (hK : K < 1000000000) (ha : 0 ≤ t.s.armed ∧ t.s.armed ≤ 1000) {A : Option Addr} {c : Nat} {l : List Chg} (hC : Chs w w.heap.size A l) (hz : A = none → c = 0) (hl : l.length ≤ 100000) :
    Calls Tryz.prog 11 #[.pointer (some ⟨sb, 0, none⟩), .slice A l.length c] w (RetFs w0 w n K g f m sb aR aC aF aM (comm t l)) :=
  (commit_any w0.heap.size g f m sb t v A c l w aE aS aR aC aF aM H.jr (H.bd hI hK ha) (he.below H.ds.un (Nat.le_refl _)) (hE.fr ((Fr.refl [] w0).belows H.ds.un (Nat.le_refl _)) (by simp)) (hE.lows H.ds.lo.1) (hE.lows H.ds.lo.2.1) H.ds.un.size hC hz hl).mono fun _ _ h => RetFs.of h H (did_comm hI (by rw [H.ds.len]; exact hn) l)
theorem Fst.compact (H : Fst w0 w n K g f m sb v t) (hI : Inv' t) (he : Errs w0 aE aS aR) (hE : Es w0 aR aC aF aM) (hn : 1 ≤ n) (hK : K < 1000000000) (ha : 0 ≤ t.s.armed ∧ t.s.armed ≤ 1000) :
    Calls Tryz.prog 14 #[.pointer (some ⟨sb, 0, none⟩)] w (RetFs w0 w n K g f m sb aR aC aF aM (rewr t t.r)) :=
  (compact_any w0.heap.size g f m sb t v w aE aS aR aC aF aM H.jr (H.bd hI hK ha) (he.below H.ds.un (Nat.le_refl _)) (hE.fr ((Fr.refl [] w0).belows H.ds.un (Nat.le_refl _)) (by simp)) (hE.lows H.ds.lo.1) (hE.lows H.ds.lo.2.1)).mono fun _ _ h => RetFs.of h H (did_rewr hI (by rw [H.ds.len]; exact hn) hI.ok hI.recs hI.few)
end
/-! ### plain -/
theorem inv_crash {s : DS} {h : Hd} {r : List Chg} (H : Inv s h r) (zs : List Int) : Inv (crashD s zs) h r := by
  have e : crashD s zs = { s with pend := [], armed := 0, down := false } := by
    unfold crashD
    rw [H.pend]
    rfl
  rw [e]
  exact ⟨rfl, rfl, H.has, H.few, H.age⟩
theorem fin_two (x : Bool × DS) (h h' : Hd) (r r' : List Chg) : (fin x h h' r r').1 = .fine ∨ (fin x h h' r r').1 = .crash := by
  unfold fin
  split
  · exact .inl rfl
  · exact .inr rfl
theorem rewr_two {t : St} {nx : List Chg} (h : secs nx ≤ roomN t.s.kept.length) : (rewr t nx).1 = .fine ∨ (rewr t nx).1 = .crash := by
  unfold rewr
  rw [if_neg (by omega)]
  exact fin_two _ _ _ _ _
theorem comm_two {t : St} (H : Inv' t) {l : List Chg} (h1 : l.any badKey = false) (h2 : l.any badVal = false) (h3 : (aft (t.r ++ l)).length ≤ 256) (h4 : secs (aft (t.r ++ l)) ≤ roomN t.s.kept.length) : (comm t l).1 = .fine ∨ (comm t l).1 = .crash := by
  have he := aft_eff H.recs l
  unfold comm
  rw [he, h1, h2]
  simp only [Bool.false_eq_true, if_false]
  rw [if_neg (by omega)]
  split
  · exact .inl rfl
  · split
    · exact fin_two _ _ _ _ _
    · exact rewr_two h4
theorem aft_ok' {t : St} (H : Inv' t) {l : List Chg} (h1 : l.any badKey = false) (h2 : l.any badVal = false) : ∀ c ∈ aft (t.r ++ l), OkC c := by
  rw [← aft_eff H.recs l]
  exact next_ok H h1 h2
/-- How Commit ends, whatever becomes of the power, where there is room. -/
theorem comm_falls {n b : Nat} {t : St} (H : Inv' t) (hlen : t.s.kept.length = n) (hn : 1 ≤ n) {l : List Chg} (hb : 4 * b + 282 ≤ n) (hr : Vals b t.r) (hl : Vals b l) :
    ((comm t l).1 ≠ .crash → codeR (comm t l).1 = aftN t.r l ∧ (comm t l).2.r = aftR t.r l ∧ Inv' (comm t l).2) ∧
    ((comm t l).1 = .crash → (comm t l).2.s.down = true ∧ ∀ zs, (∃ h', Inv (crashD (comm t l).2.s zs) h' t.r) ∨ ∃ h', Inv (crashD (comm t l).2.s zs) h' (aftR t.r l)) := by
  have he := aft_eff H.recs l
  have D := did_comm H (by omega) l
  unfold aftN aftR
  by_cases k1 : l.any badKey = true
  · rw [comm_key k1, if_pos k1, if_pos k1]
    exact ⟨fun _ => ⟨rfl, rfl, H⟩, fun h => by simp at h⟩
  · have k1' : l.any badKey = false := by simpa using k1
    rw [if_neg k1, if_neg k1]
    by_cases k2 : l.any badVal = true
    · rw [comm_val k1' k2, if_pos k2, if_pos k2]
      exact ⟨fun _ => ⟨rfl, rfl, H⟩, fun h => by simp at h⟩
    · have k2' : l.any badVal = false := by simpa using k2
      rw [if_neg k2, if_neg k2]
      by_cases k3 : 256 < (aft (t.r ++ l)).length
      · rw [if_pos k3, if_pos k3]
        have : comm t l = (.many, t) := by unfold comm; rw [he, if_neg k1, if_neg k2, if_pos k3]
        rw [this]
        exact ⟨fun _ => ⟨rfl, rfl, H⟩, fun h => by simp at h⟩
      · rw [if_neg k3, if_neg k3]
        have hroom := vals_room (aft_ok' H k1' k2') (hr.aft hl) (by omega) hb
        rcases comm_two H k1' k2' (by omega) (by rw [hlen]; exact hroom) with hf | hf
        · refine ⟨fun _ => ⟨by rw [hf]; rfl, (D.fine hf).2, (D.fine hf).1⟩, fun h => by rw [hf] at h; cases h⟩
        · refine ⟨fun h => absurd hf h, fun _ => ⟨(D.crash hf).1, fun zs => ?_⟩⟩
          rcases (D.crash hf).2 zs with h | h
          · exact .inl ⟨_, h⟩
          · exact .inr h
/-- How Compact ends. -/
theorem rewr_falls {n b : Nat} {t : St} (H : Inv' t) (hlen : t.s.kept.length = n) (hn : 1 ≤ n) (hb : 4 * b + 282 ≤ n) (hr : Vals b t.r) :
    ((rewr t t.r).1 ≠ .crash → (rewr t t.r).1 = .fine ∧ (rewr t t.r).2.r = t.r ∧ Inv' (rewr t t.r).2) ∧
    ((rewr t t.r).1 = .crash → (rewr t t.r).2.s.down = true ∧ ∀ zs, ∃ h', Inv (crashD (rewr t t.r).2.s zs) h' t.r) := by
  have D := did_rewr H (by omega) H.ok H.recs H.few
  rcases rewr_two (t := t) (nx := t.r) (by rw [hlen]; exact vals_room H.ok hr H.few hb) with hf | hf
  · exact ⟨fun _ => ⟨hf, (D.fine hf).2, (D.fine hf).1⟩, fun h => by rw [hf] at h; cases h⟩
  · refine ⟨fun h => absurd hf h, fun _ => ⟨(D.crash hf).1, fun zs => ?_⟩⟩
    rcases (D.crash hf).2 zs with h | h
    · exact ⟨_, h⟩
    · exact h
end Go.Proofs.YtmpklljiddggpaaGreatDoor
