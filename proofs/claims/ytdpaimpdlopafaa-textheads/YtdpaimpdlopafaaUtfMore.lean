/- Plain facts about a text's runes, one behind the other. -/
import Derived.Test.YtdpaimpdlopafaaUtf
namespace Go.Proofs.Ytdpaimpdlopafaa

/-- The runes from a place on. -/
def runesFrom (s : ByteArray) : Nat → Nat → List Nat
  | 0, _ => []
  | f + 1, pos => if pos < s.size then (Utf8.decode s pos).1 :: runesFrom s f (pos + (Utf8.decode s pos).2) else []
def runesOf (s : ByteArray) : List Nat := runesFrom s s.size 0
theorem runesFrom_end (s : ByteArray) (f pos : Nat) (h : ¬ pos < s.size) : runesFrom s f pos = [] := by cases f <;> simp [runesFrom, h]
theorem runesFrom_step (s : ByteArray) (f pos : Nat) (h : pos < s.size) : runesFrom s (f + 1) pos = (Utf8.decode s pos).1 :: runesFrom s f (pos + (Utf8.decode s pos).2) := by simp [runesFrom, h]
theorem runesFrom_length (s : ByteArray) : ∀ f pos, (runesFrom s f pos).length = Lib.runeCountFrom s f pos
  | 0, pos => by simp [runesFrom, Lib.runeCountFrom]
  | f + 1, pos => by
    have ih := runesFrom_length s f (pos + (Utf8.decode s pos).2)
    by_cases h : pos < s.size
    · simp [runesFrom, Lib.runeCountFrom, h, ih]; omega
    · simp [runesFrom, Lib.runeCountFrom, h]
theorem runesOf_length (s : ByteArray) : (runesOf s).length = Lib.runeCount s := runesFrom_length s _ _
theorem refR_of_bad {s : ByteArray} {p : Nat} (h : badAt s p = true) : refR s p = (0, 0) := by simp [refR, h]
theorem refR_of_ok {s : ByteArray} {p : Nat} (h : badAt s p = false) : refR s p = Utf8.decode s p := by simp [refR, h]
theorem decode_le (s : ByteArray) (p : Nat) : (Utf8.decode s p).1 ≤ 1114111 := by
  rw [Lib.decode_at]
  unfold Lib.decodeN
  repeat' split
  all_goals (simp only; omega)

end Go.Proofs.Ytdpaimpdlopafaa
