/- Plain facts about texts as lists of bytes and about the decoding of runes, with no program in them: what the checks, counts and cuts of texts come to. -/
import Derived.Lib.DecodeN
import Derived.Lib.RuneCount
import Derived.Lib.Strings
import Derived.Lib.IndexBytes
import Derived.Lib.Join
namespace Go.Proofs.YtdpaimpdlopafaaDoor

/-- At this place a text cannot be read: the rune of faults, and not by its own three bytes. -/
def badAt (s : ByteArray) (pos : Nat) : Bool := ((Utf8.decode s pos).1 == 65533) && !(Lib.hasPrefix (s.data.toList.drop pos) [239, 191, 189])

def vldFrom (s : ByteArray) : Nat → Nat → Bool
  | 0, _ => true
  | f + 1, pos => if pos < s.size then (if badAt s pos then false else vldFrom s f (pos + (Utf8.decode s pos).2)) else true
def vld (s : ByteArray) : Bool := vldFrom s s.size 0
def chk (s : ByteArray) : Int := if vld s then 0 else 5

theorem vldFrom_end (s : ByteArray) (f pos : Nat) (h : ¬ pos < s.size) : vldFrom s f pos = true := by
  cases f <;> simp [vldFrom, h]
theorem vldFrom_step (s : ByteArray) (f pos : Nat) (h : pos < s.size) (hb : badAt s pos = false) : vldFrom s (f + 1) pos = vldFrom s f (pos + (Utf8.decode s pos).2) := by
  simp [vldFrom, h, hb]
theorem vldFrom_bad (s : ByteArray) (f pos : Nat) (h : pos < s.size) (hb : badAt s pos = true) : vldFrom s (f + 1) pos = false := by
  simp [vldFrom, h, hb]
theorem chk_ok {s : ByteArray} (h : vld s = true) : chk s = 0 := by simp [chk, h]
theorem chk_no {s : ByteArray} (h : vld s = false) : chk s = 5 := by simp [chk, h]
theorem badAt_other (s : ByteArray) (pos : Nat) (h : (((Utf8.decode s pos).1 : Int) == 65533) = false) : badAt s pos = false := by
  have : ((Utf8.decode s pos).1 == 65533) = false := by
    rw [beq_eq_false_iff_ne] at h ⊢
    omega
  simp [badAt, this]
theorem badAt_err (s : ByteArray) (pos : Nat) (h : (((Utf8.decode s pos).1 : Int) == 65533) = true) : badAt s pos = !(Lib.hasPrefix (s.data.toList.drop pos) [239, 191, 189]) := by
  have : ((Utf8.decode s pos).1 == 65533) = true := by
    rw [beq_iff_eq] at h ⊢
    omega
  simp [badAt, this]

/-- The place behind the first n runes from a place on; the end, where there are fewer. -/
def placeFrom (s : ByteArray) : Nat → Nat → Nat
  | 0, pos => pos
  | n + 1, pos => if pos < s.size then placeFrom s n (pos + (Utf8.decode s pos).2) else pos
theorem placeFrom_end (s : ByteArray) (n pos : Nat) (h : ¬ pos < s.size) : placeFrom s n pos = pos := by
  cases n <;> simp [placeFrom, h]
theorem extract_all (s : ByteArray) (pos : Nat) (h : ¬ pos < s.size) : s.extract 0 pos = s := by
  apply ByteArray.ext
  apply Array.toList_inj.1
  rw [Lib.extract_data, List.drop_zero, List.take_of_length_le]
  rw [← Lib.size_eq]; omega

/-- A word as it is added: none, where it is empty. -/
def addW (x : ByteArray) : List ByteArray := if x.size = 0 then [] else [x]
def whiteR (r : Int) : Bool := r == 32 || r == 9 || r == 10 || r == 13
/-- What Words adds from a place on, the word's beginning in hand. -/
def wordsFrom (s : ByteArray) : Nat → Nat → Nat → List ByteArray
  | 0, _, beg => addW (s.extract beg s.size)
  | f + 1, pos, beg => if pos < s.size then (if whiteR (Utf8.decode s pos).1 then addW (s.extract beg pos) ++ wordsFrom s f (pos + (Utf8.decode s pos).2) (pos + 1) else wordsFrom s f (pos + (Utf8.decode s pos).2) beg) else addW (s.extract beg s.size)
def wordsOf (s : ByteArray) : List ByteArray := wordsFrom s s.size 0 0
theorem wordsFrom_end (s : ByteArray) (f pos beg : Nat) (h : ¬ pos < s.size) : wordsFrom s f pos beg = addW (s.extract beg s.size) := by
  cases f <;> simp [wordsFrom, h]
theorem wordsFrom_white (s : ByteArray) (f pos beg : Nat) (h : pos < s.size) (hw : whiteR (Utf8.decode s pos).1 = true) : wordsFrom s (f + 1) pos beg = addW (s.extract beg pos) ++ wordsFrom s f (pos + (Utf8.decode s pos).2) (pos + 1) := by
  simp [wordsFrom, h, hw]
theorem wordsFrom_plain (s : ByteArray) (f pos beg : Nat) (h : pos < s.size) (hw : whiteR (Utf8.decode s pos).1 = false) : wordsFrom s (f + 1) pos beg = wordsFrom s f (pos + (Utf8.decode s pos).2) beg := by
  simp [wordsFrom, h, hw]
theorem addW_le (x : ByteArray) : (addW x).length ≤ 1 := by unfold addW; split <;> simp

/-- A rune that is read lies within the text. -/
theorem decode_fits (s : ByteArray) (pos : Nat) (h : pos < s.size) : pos + (Utf8.decode s pos).2 ≤ s.size := by
  rw [Lib.decode_at]
  generalize (s.get! pos).toNat = b0
  generalize (s.get! (pos + 1)).toNat = b1
  generalize (s.get! (pos + 2)).toNat = b2
  generalize (s.get! (pos + 3)).toNat = b3
  unfold Lib.decodeN
  repeat' split
  all_goals (simp only; omega)

/-- The words, one blank between. -/
def sqz (s : ByteArray) : List UInt8 := Lib.join ((wordsOf s).map (fun x => x.data.toList)) [32]
theorem addW_mem {x y : ByteArray} (h : y ∈ addW x) : y = x := by
  unfold addW at h
  split at h
  · simp at h
  · simpa using h
theorem wordsFrom_len (s : ByteArray) : ∀ f pos beg, (wordsFrom s f pos beg).length ≤ f + 1
  | 0, pos, beg => by have := addW_le (s.extract beg s.size); simp only [wordsFrom]; omega
  | f + 1, pos, beg => by
    have a1 := addW_le (s.extract beg s.size)
    have a2 := addW_le (s.extract beg pos)
    have i1 := wordsFrom_len s f (pos + (Utf8.decode s pos).2) (pos + 1)
    have i2 := wordsFrom_len s f (pos + (Utf8.decode s pos).2) beg
    simp only [wordsFrom]
    repeat' split
    all_goals (try rw [List.length_append]) <;> omega
theorem cut_le (s : ByteArray) (a b : Nat) : (s.extract a b).size ≤ s.size := by rw [ByteArray.size_extract]; omega
theorem wordsFrom_mem (s x : ByteArray) : ∀ f pos beg, x ∈ wordsFrom s f pos beg → x.size ≤ s.size
  | 0, pos, beg => fun h => by simp only [wordsFrom] at h; rw [addW_mem h]; exact cut_le _ _ _
  | f + 1, pos, beg => fun h => by
    simp only [wordsFrom] at h
    split at h
    · split at h
      · rcases List.mem_append.1 h with h | h
        · rw [addW_mem h]; exact cut_le _ _ _
        · exact wordsFrom_mem s x f _ _ h
      · exact wordsFrom_mem s x f _ _ h
    · rw [addW_mem h]; exact cut_le _ _ _
theorem lens_le (M : Nat) : ∀ l : List ByteArray, (∀ x ∈ l, x.size ≤ M) → Lib.lens (l.map (fun x => x.data.toList)) ≤ l.length * M
  | [], _ => by simp [Lib.lens]
  | x :: r, h => by
    have h1 := h x (by simp)
    have h2 := lens_le M r (fun y hy => h y (by simp [hy]))
    rw [Lib.size_eq] at h1
    simp only [Lib.lens, List.map_cons, List.length_cons, List.sum_cons, Nat.add_mul] at h2 ⊢
    omega
theorem sqz_len (s : ByteArray) (hs : s.size ≤ 1000000) : (sqz s).length ≤ 140737488355328 := by
  have h1 : (wordsOf s).length ≤ s.size + 1 := wordsFrom_len s s.size 0 0
  have h2 := lens_le s.size (wordsOf s) (fun x hx => wordsFrom_mem s x _ _ _ hx)
  have h3 : (wordsOf s).length * s.size ≤ 1000001 * 1000000 := Nat.mul_le_mul (by omega) hs
  unfold sqz
  cases hw : wordsOf s with
  | nil => simp [Lib.join_nil]
  | cons x r =>
    rw [hw] at h1 h2 h3
    rw [List.map_cons, Lib.join_length]
    rw [List.map_cons] at h2
    simp only [List.length_cons, List.length_map, List.length_nil] at h1 ⊢
    omega

end Go.Proofs.YtdpaimpdlopafaaDoor
