/-
  Tokens of runes as plain lists: what is skipped, what is read at a place, all tokens. Conditions: none.
-/
import Derived.Test.YtndagbmcdpafjaaDoorQTxV
import Derived.Test.YtndagbmcdpafjaaDoorQTxN
import Derived.Lib.ParseIntB
namespace Go.Proofs.YtndagbmcdpafjaaDoor
open Go.Shelf Go.RowKit Go.Lib

/-- The runes of bytes. -/
def rns (l : List UInt8) : List Nat := (pcs l).map (·.1)
/-- A rune's bytes. -/
def encB (r : Nat) : List UInt8 :=
  if r < 128 then [UInt8.ofNat r]
  else if r < 2048 then [UInt8.ofNat (192 + r / 64), UInt8.ofNat (128 + r % 64)]
  else if r < 65536 then [UInt8.ofNat (224 + r / 4096), UInt8.ofNat (128 + r / 64 % 64), UInt8.ofNat (128 + r % 64)]
  else [UInt8.ofNat (240 + r / 262144), UInt8.ofNat (128 + r / 4096 % 64), UInt8.ofNat (128 + r / 64 % 64), UInt8.ofNat (128 + r % 64)]
/-- May a rune be encoded? -/
def okR (r : Nat) : Prop := r ≤ 1114111 ∧ (r < 55296 ∨ 57343 < r)
theorem encode_encB (r : Nat) (h : okR r) : (Utf8.encode (r : Int)).data.toList = encB r := by
  unfold encB
  rcases enc_ways r h.1 h.2 with ⟨a, e⟩ | ⟨a, b, e⟩ | ⟨a, b, e⟩ | ⟨a, e⟩
  · rw [e, if_pos a]
  · rw [e, if_neg (by omega), if_pos b]
  · rw [e, if_neg (by omega), if_neg (by omega), if_pos b]
  · rw [e, if_neg (by omega), if_neg (by omega), if_neg (by omega)]
/-- The bytes of runes. -/
def encs (rs : List Nat) : List UInt8 := rs.flatMap encB
theorem encs_append (a b : List Nat) : encs (a ++ b) = encs a ++ encs b := List.flatMap_append
theorem encs_nil : encs [] = [] := rfl
theorem encs_cons (r : Nat) (t : List Nat) : encs (r :: t) = encB r ++ encs t := rfl
theorem runes_foldl : ∀ (rs : List Nat) (s : ByteArray), (∀ r ∈ rs, okR r) → ((rs.map Int.ofNat).foldl (fun r n => r ++ Utf8.encode n) s).data.toList = s.data.toList ++ encs rs
  | [], s, _ => by simp [encs]
  | r :: t, s, h => by
    have := runes_foldl t (s ++ Utf8.encode (r : Int)) (fun x hx => h x (List.mem_cons_of_mem _ hx))
    rw [List.map_cons, List.foldl_cons]
    refine this.trans ?_
    rw [ByteArray.data_append, Array.toList_append, encode_encB r (h r (by simp)), encs_cons, List.append_assoc]
theorem runesBytes_eq (rs : List Nat) (h : ∀ r ∈ rs, okR r) : runesBytes (rs.map Int.ofNat) = ⟨(encs rs).toArray⟩ := by
  have := runes_foldl rs ByteArray.empty h
  exact of_bytes (by rw [runesBytes]; simpa using this)

/-- A piece's bytes are its rune's. -/
theorem dec_encB (l : List UInt8) (hl : l ≠ []) (h : dec l ≠ (65533, 1)) : okR (dec l).1 ∧ l.take (dec l).2 = encB (dec l).1 ∧ (encB (dec l).1).length = (dec l).2 := by
  have g : ∀ (k : Nat) (hk : k < l.length), l[k] = UInt8.ofNat ((l[k]?.getD 0).toNat) := fun k hk => by simp [List.getElem?_eq_getElem hk]
  have b0 := UInt8.toNat_lt (l[0]?.getD 0)
  have b1 := UInt8.toNat_lt (l[1]?.getD 0)
  have b2 := UInt8.toNat_lt (l[2]?.getD 0)
  have b3 := UInt8.toNat_lt (l[3]?.getD 0)
  have hpos : 0 < l.length := List.length_pos_iff.2 hl
  have t1 : l.take 1 = [UInt8.ofNat ((l[0]?.getD 0).toNat)] := by
    rw [← g 0 hpos]
    cases l with
    | nil => exact absurd rfl hl
    | cons a t => rfl
  have t2 : 1 < l.length → l.take 2 = [UInt8.ofNat ((l[0]?.getD 0).toNat), UInt8.ofNat ((l[1]?.getD 0).toNat)] := fun h1 => by
    rw [← g 0 hpos, ← g 1 h1]
    match l, h1 with
    | a :: b :: t, _ => rfl
  have t3 : 2 < l.length → l.take 3 = [UInt8.ofNat ((l[0]?.getD 0).toNat), UInt8.ofNat ((l[1]?.getD 0).toNat), UInt8.ofNat ((l[2]?.getD 0).toNat)] := fun h1 => by
    rw [← g 0 hpos, ← g 1 (by omega), ← g 2 h1]
    match l, h1 with
    | a :: b :: c :: t, _ => rfl
  have t4 : 3 < l.length → l.take 4 = [UInt8.ofNat ((l[0]?.getD 0).toNat), UInt8.ofNat ((l[1]?.getD 0).toNat), UInt8.ofNat ((l[2]?.getD 0).toNat), UInt8.ofNat ((l[3]?.getD 0).toNat)] := fun h1 => by
    rw [← g 0 hpos, ← g 1 (by omega), ← g 2 (by omega), ← g 3 h1]
    match l, h1 with
    | a :: b :: c :: d :: t, _ => rfl
  clear g
  unfold dec decodeN at h ⊢
  generalize (l[0]?.getD 0).toNat = a at *
  generalize (l[1]?.getD 0).toNat = b at *
  generalize (l[2]?.getD 0).toNat = c at *
  generalize (l[3]?.getD 0).toNat = d at *
  split at h
  · rename_i g1
    rw [if_pos g1]
    dsimp only
    refine ⟨⟨by omega, by omega⟩, ?_, ?_⟩
    · rw [t1]; unfold encB; rw [if_pos g1]
    · unfold encB; rw [if_pos g1]; rfl
  · rename_i g1
    rw [if_neg g1]
    split at h
    · rename_i g2
      rw [if_pos g2]
      split at h
      · rename_i g3
        rw [if_pos g3]
        dsimp only
        refine ⟨⟨by omega, by omega⟩, ?_, ?_⟩
        · rw [t2 (by omega)]
          unfold encB
          rw [if_neg (by omega), if_pos (by omega), show 192 + (a % 32 * 64 + b % 64) / 64 = a by omega, show 128 + (a % 32 * 64 + b % 64) % 64 = b by omega]
        · unfold encB; rw [if_neg (by omega), if_pos (by omega)]; rfl
      · exact absurd rfl h
    · rename_i g2
      rw [if_neg g2]
      split at h
      · rename_i g3
        rw [if_pos g3]
        split at h
        · rename_i g4
          rw [if_pos g4]
          dsimp only
          refine ⟨⟨by omega, by omega⟩, ?_, ?_⟩
          · rw [t3 (by omega)]
            unfold encB
            rw [if_neg (by omega), if_neg (by omega), if_pos (by omega), show 224 + (a % 16 * 4096 + b % 64 * 64 + c % 64) / 4096 = a by omega, show 128 + (a % 16 * 4096 + b % 64 * 64 + c % 64) / 64 % 64 = b by omega, show 128 + (a % 16 * 4096 + b % 64 * 64 + c % 64) % 64 = c by omega]
          · unfold encB; rw [if_neg (by omega), if_neg (by omega), if_pos (by omega)]; rfl
        · exact absurd rfl h
      · rename_i g3
        rw [if_neg g3]
        split at h
        · rename_i g4
          rw [if_pos g4]
          split at h
          · rename_i g5
            rw [if_pos g5]
            dsimp only
            refine ⟨⟨by omega, by omega⟩, ?_, ?_⟩
            · rw [t4 (by omega)]
              unfold encB
              rw [if_neg (by omega), if_neg (by omega), if_neg (by omega), show 240 + (a % 8 * 262144 + b % 64 * 4096 + c % 64 * 64 + d % 64) / 262144 = a by omega, show 128 + (a % 8 * 262144 + b % 64 * 4096 + c % 64 * 64 + d % 64) / 4096 % 64 = b by omega, show 128 + (a % 8 * 262144 + b % 64 * 4096 + c % 64 * 64 + d % 64) / 64 % 64 = c by omega, show 128 + (a % 8 * 262144 + b % 64 * 4096 + c % 64 * 64 + d % 64) % 64 = d by omega]
            · unfold encB; rw [if_neg (by omega), if_neg (by omega), if_neg (by omega)]; rfl
          · exact absurd rfl h
        · exact absurd rfl h
end Go.Proofs.YtndagbmcdpafjaaDoor
