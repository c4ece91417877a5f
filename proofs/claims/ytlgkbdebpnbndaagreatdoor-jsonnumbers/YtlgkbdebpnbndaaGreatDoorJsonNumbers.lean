
/- Proved: JsonNumbers, as the tied card says it: it returns true at every input and leaves it as it was: which digits are whole numbers, at the ends of 64 bits too; its condition: the library's tables read as its text lays them, to which the card ties them. -/
import Derived.Test.YtlgkbdebpnbndaaGreatDoorCards
import Derived.Test.YtlgkbdebpnbndaaGreatDoorTie
import Derived.Test.YtlgkbdebpnbndaaGreatDoorJsOpen
import Derived.ProofKit
import Derived.OpenShut
import Derived.ShutString
import Derived.ChangeOld
import Derived.Deep.DeepHandedRow
import Derived.Test.YtlgkbdebpnbndaaGreatDoorJsRP4
namespace Go.Proofs.YtlgkbdebpnbndaaGreatDoor
set_option linter.unusedVariables false
set_option linter.unusedSimpArgs false
open Go.RowKit Go.BigFrame

/-- The decimal digits of a number. -/
def dgN : Nat → Nat → List UInt8
  | 0, _ => []
  | f + 1, n => if n < 10 then [UInt8.ofNat (48 + n)] else dgN f (n / 10) ++ [UInt8.ofNat (48 + n % 10)]
theorem dgN_fuel : ∀ (f g n : Nat), n < f → n < g → dgN f n = dgN g n
  | 0, g, n, h, _ => by omega
  | f + 1, 0, n, _, h => by omega
  | f + 1, g + 1, n, h1, h2 => by
    unfold dgN
    by_cases h : n < 10
    · rw [if_pos h, if_pos h]
    · rw [if_neg h, if_neg h, dgN_fuel f g (n / 10) (by omega) (by omega)]
def dgT (n : Nat) : List UInt8 := dgN (n + 1) n
theorem dgT_small {n : Nat} (h : n < 10) : dgT n = [UInt8.ofNat (48 + n)] := by
  unfold dgT dgN
  rw [if_pos h]
theorem dgT_step {n : Nat} (h : ¬ n < 10) : dgT n = dgT (n / 10) ++ [UInt8.ofNat (48 + n % 10)] := by
  have e : dgT n = dgN n (n / 10) ++ [UInt8.ofNat (48 + n % 10)] := by
    unfold dgT
    rw [dgN, if_neg h]
  rw [e]
  unfold dgT
  rw [dgN_fuel n (n / 10 + 1) (n / 10) (by omega) (by omega)]
theorem dig_byte (k : Nat) (h : k < 10) : (UInt8.ofNat (48 + k)).toNat = 48 + k := by rw [UInt8.toNat_ofNat']; omega
theorem digT_ok (k : Nat) (h : k < 10) : digJ (UInt8.ofNat (48 + k)) = true := by
  unfold digJ
  rw [dig_byte k h, decide_eq_true_eq]
  omega
theorem decJ_snoc (l : List UInt8) (c : UInt8) : decJ (l ++ [c]) = decJ l * 10 + (c.toNat - 48) := by
  unfold decJ
  rw [List.foldl_append]
  rfl
theorem dgT_all : ∀ (k n : Nat), n ≤ k → (∀ c ∈ dgT n, digJ c = true) ∧ decJ (dgT n) = n ∧ dgT n ≠ [] ∧ (n ≠ 0 → ∀ r, dgT n ≠ 48 :: r)
  | 0, n, h => by
    obtain rfl : n = 0 := by omega
    refine ⟨?_, rfl, by decide, fun h => absurd rfl h⟩
    intro c hc
    rw [dgT_small (by decide), List.mem_singleton] at hc
    rw [hc]; rfl
  | k + 1, n, h => by
    by_cases h1 : n < 10
    · rw [dgT_small h1]
      refine ⟨fun c hc => ?_, ?_, by simp, fun h0 r e => ?_⟩
      · rw [List.mem_singleton] at hc
        rw [hc]; exact digT_ok n h1
      · show 0 * 10 + ((UInt8.ofNat (48 + n)).toNat - 48) = n
        rw [dig_byte n h1]; omega
      · injection e with e _
        have := congrArg UInt8.toNat e
        rw [dig_byte n h1] at this
        have h48 : (48 : UInt8).toNat = 48 := rfl
        omega
    · obtain ⟨i1, i2, i3, i4⟩ := dgT_all k (n / 10) (by omega)
      rw [dgT_step h1]
      refine ⟨fun c hc => ?_, ?_, by simp, fun _ r e => ?_⟩
      · rcases List.mem_append.1 hc with hc | hc
        · exact i1 c hc
        · rw [List.mem_singleton] at hc
          rw [hc]; exact digT_ok _ (by omega)
      · rw [decJ_snoc, i2, dig_byte _ (by omega)]; omega
      · cases hd : dgT (n / 10) with
        | nil => exact i3 hd
        | cons c q =>
          rw [hd] at e
          injection e with e _
          subst e
          exact i4 (by omega) q hd
theorem twT_all {p : UInt8 → Bool} : ∀ l : List UInt8, (∀ c ∈ l, p c = true) → l.takeWhile p = l ∧ l.dropWhile p = []
  | [], _ => ⟨rfl, rfl⟩
  | c :: r, h => by
    have hc := h c List.mem_cons_self
    obtain ⟨h1, h2⟩ := twT_all r (fun x hx => h x (List.mem_cons_of_mem _ hx))
    constructor
    · rw [List.takeWhile_cons, if_pos hc, h1]
    · rw [List.dropWhile_cons, if_pos hc, h2]
theorem int_dg (n : Nat) : intJ (dgT n) = some (dgT n, []) := by
  obtain ⟨h1, _, h3, h4⟩ := dgT_all n n (Nat.le_refl _)
  by_cases h0 : n = 0
  · subst h0; rfl
  · unfold intJ
    have e : preX [48] (dgT n) = false := by
      cases hd : dgT n with
      | nil => exact absurd hd h3
      | cons c r => exact pre_hd (fun e => h4 h0 r (by rw [hd, ← e]))
    obtain ⟨t1, t2⟩ := twT_all _ h1
    rw [e, t1, t2]
    have : (dgT n).isEmpty = false := by rw [List.isEmpty_eq_false_iff]; exact h3
    rw [this]
    rfl
def sgnT (b : Bool) : List UInt8 := if b then [45] else []
theorem num_dg (b : Bool) (n : Nat) : numJ (sgnT b ++ dgT n) = if fitsJ (if b then -(n : Int) else n) then .ok (if b then -(n : Int) else n, []) else .error 1 := by
  obtain ⟨h1, h2, h3, _⟩ := dgT_all n n (Nat.le_refl _)
  have hm : minJ (sgnT b ++ dgT n) = dgT n ∧ preX [45] (sgnT b ++ dgT n) = b := by
    cases b with
    | true => exact ⟨rfl, rfl⟩
    | false =>
      have e : preX [45] (dgT n) = false := by
        cases hd : dgT n with
        | nil => rfl
        | cons c r =>
          refine pre_hd (fun e => ?_)
          have := h1 c (by rw [hd]; simp)
          rw [← e] at this
          revert this; decide
      refine ⟨?_, e⟩
      show minJ (dgT n) = dgT n
      unfold minJ
      rw [e]
      rfl
  unfold numJ
  rw [hm.1, hm.2, int_dg]
  simp only [h2]
  rfl
theorem dig_lt (c : UInt8) (h : digJ c = true) : c.toNat < 128 := by
  unfold digJ at h
  rw [decide_eq_true_eq] at h
  omega
theorem V_allT (l : List UInt8) (h : ∀ c ∈ l, c.toNat < 128) : V l = true := by
  have := V_ascii l [] h
  rw [List.append_nil] at this
  rw [this]
  rfl
/-- A number's digits are its value, if it fits, else too great. -/
theorem par_dg (b : Bool) (n : Nat) (hn : (dgT n).length ≤ 60000) : parJ (sgnT b ++ dgT n) = if fitsJ (if b then -(n : Int) else n) then .ok (leafJ 40 (2, if b then -(n : Int) else n, [], [])) else .error 1 := by
  obtain ⟨h1, h2, h3, _⟩ := dgT_all n n (Nat.le_refl _)
  have hl : (sgnT b ++ dgT n).length ≤ 60001 := by
    rw [List.length_append]
    have : (sgnT b).length ≤ 1 := by cases b <;> decide
    omega
  have hv : V (sgnT b ++ dgT n) = true := V_allT _ fun c hc => by
    rcases List.mem_append.1 hc with hc | hc
    · cases b with
      | true => rw [show c = 45 from List.mem_singleton.1 hc]; decide
      | false => cases hc
    · exact dig_lt c (h1 c hc)
  obtain ⟨c, r, hcr, hcd⟩ : ∃ c r, sgnT b ++ dgT n = c :: r ∧ (c = 45 ∨ digJ c = true) := by
    cases b with
    | true => exact ⟨45, dgT n, rfl, .inl rfl⟩
    | false =>
      cases hd : dgT n with
      | nil => exact absurd hd h3
      | cons c r => exact ⟨c, r, rfl, .inr (h1 c (by rw [hd]; simp))⟩
  have hbeg : begJ c = true := by
    rcases hcd with rfl | h
    · rfl
    · exact beg_dig h
  have hne : ∀ k : UInt8, k ≠ 45 → digJ k = false → c ≠ k := fun k hk hd e => by
    rcases hcd with h | h
    · exact hk (e ▸ h)
    · rw [e, hd] at h; cases h
  have hwh : (c :: r).dropWhile whX = c :: r := by
    rw [List.dropWhile_cons]
    have : whX c = false := by
      rcases hcd with rfl | h
      · rfl
      · cases hw : whX c with
        | false => rfl
        | true =>
          exfalso
          have hcl : 48 ≤ c.toNat := by unfold digJ at h; rw [decide_eq_true_eq] at h; exact h.1
          unfold whX at hw
          simp only [Bool.or_eq_true, beq_iff_eq] at hw
          omega
    rw [this]
    rfl
  have hvj : valJ 40 0 (sgnT b ++ dgT n) 0 = (match numJ (sgnT b ++ dgT n) with
      | .error e => .error e
      | .ok (v, r) => .ok (leafJ 40 (2, v, [], []), r, 1)) := by
    rw [hcr, val_step, top_ok hwh hbeg (by decide), atom_rest (hne 110 (by decide) rfl) (hne 116 (by decide) rfl) (hne 102 (by decide) rfl) (hne 34 (by decide) rfl) (hne 91 (by decide) rfl) (hne 123 (by decide) rfl)]
    rfl
  unfold parJ
  rw [if_neg (by omega), hv, hvj, num_dg]
  by_cases hf : fitsJ (if b then -(n : Int) else n) = true
  · rw [if_pos hf, if_pos hf]; rfl
  · rw [if_neg hf, if_neg hf]; rfl
/-- What the loop has: the digits that are done, the number that is left. -/
def DgI (n k : Nat) (s : List UInt8) : Prop := (s = [] ∧ k = n) ∨ (s ≠ [] ∧ ((k = 0 ∧ s = dgT n) ∨ (0 < k ∧ dgT n = dgT k ++ s)))
theorem DgI.step {n k : Nat} {s : List UInt8} (h : DgI n k s) (hk : 0 < k ∨ s = []) : DgI n (k / 10) (UInt8.ofNat (48 + k % 10) :: s) := by
  have key : dgT n = dgT k ++ s := by
    rcases h with ⟨rfl, rfl⟩ | ⟨h1, ⟨h2, h3⟩ | ⟨h2, h3⟩⟩
    · rw [List.append_nil]
    · rcases hk with hk | hk
      · omega
      · exact absurd hk h1
    · exact h3
  refine .inr ⟨by simp, ?_⟩
  by_cases h10 : k < 10
  · left
    refine ⟨by omega, ?_⟩
    rw [key, dgT_small h10, show k % 10 = k from by omega]
    rfl
  · right
    refine ⟨by omega, ?_⟩
    rw [key, dgT_step h10, List.append_assoc]
    rfl
theorem DgI.done {n : Nat} {s : List UInt8} (h : DgI n 0 s) (hs : s ≠ []) : s = dgT n := by
  rcases h with ⟨h1, _⟩ | ⟨_, ⟨_, h⟩ | ⟨h, _⟩⟩
  · exact absurd h1 hs
  · exact h
  · omega
end Go.Proofs.YtlgkbdebpnbndaaGreatDoor
namespace Go.Proofs.YtlgkbdebpnbndaaGreatDoor
set_option linter.unusedVariables false
set_option linter.unusedSimpArgs false
open Go.RowKit Go.BigFrame
attribute [local go_sem ↓] buildV_eq loadV_eq

theorem slice_tenU (r : Nat) (h : r < 10) (W : World) : (Instr.slice 9 (.string ⟨#[48, 49, 50, 51, 52, 53, 54, 55, 56, 57]⟩) (some (.int .u64 (r : Int))) (some (.int .u64 ((r : Int) + 1))) none).run Tryz.prog W = .ok (.string (asS [UInt8.ofNat (48 + r)])) W := by
  rcases (show r = 0 ∨ r = 1 ∨ r = 2 ∨ r = 3 ∨ r = 4 ∨ r = 5 ∨ r = 6 ∨ r = 7 ∨ r = 8 ∨ r = 9 by omega) with rfl | rfl | rfl | rfl | rfl | rfl | rfl | rfl | rfl | rfl <;> kernel_rfl
theorem dgT_len : ∀ (f n : Nat), n < 10 ^ (f + 1) → (dgT n).length ≤ f + 1
  | 0, n, h => by rw [dgT_small (by omega)]; exact Nat.le_refl _
  | f + 1, n, h => by
    by_cases h1 : n < 10
    · rw [dgT_small h1]; exact Nat.succ_le_succ (Nat.zero_le _)
    · rw [dgT_step h1, List.length_append, List.length_singleton]
      have := dgT_len f (n / 10) (by rw [Nat.pow_succ] at h; omega)
      omega
theorem ten_ext (r : Nat) (h : r < 10) : (⟨#[48, 49, 50, 51, 52, 53, 54, 55, 56, 57]⟩ : ByteArray).extract r (r + 1) = asS [UInt8.ofNat (48 + r)] := by
  rcases (show r = 0 ∨ r = 1 ∨ r = 2 ∨ r = 3 ∨ r = 4 ∨ r = 5 ∨ r = 6 ∨ r = 7 ∨ r = 8 ∨ r = 9 by omega) with rfl | rfl | rfl | rfl | rfl | rfl | rfl | rfl | rfl | rfl <;> rfl
theorem len_20 {k N : Nat} {s : List UInt8} (h : k * 10 ^ s.length ≤ N) (hN : N < 18446744073709551616) (hk : 0 < k ∨ s = []) : s.length < 20 := by
  rcases hk with hk | rfl
  · by_cases h20 : s.length < 20
    · exact h20
    · exfalso
      have h1 : 10 ^ 20 ≤ 10 ^ s.length := Nat.pow_le_pow_right (by decide) (by omega)
      have h2 : 1 * 10 ^ s.length ≤ k * 10 ^ s.length := Nat.mul_le_mul_right _ hk
      have h3 : (10 : Nat) ^ 20 = 100000000000000000000 := by decide
      omega
  · decide
def nuM (a7 a8 : Value) : Nat := (intOf a8).toNat + (match a7 with | .string t => if t.size = 0 then 1 else 0 | _ => 0)
theorem nuM_int (t : ByteArray) (k : Nat) : nuM (.string t) (.int .u64 (k : Int)) = k + (if t.size = 0 then 1 else 0) := by
  unfold nuM
  simp [intOf]
/-- What Parse answers to a number's digits. -/
def NuP (fit : Bool) (v : Int) (x : Ending) : Prop := (fit = true → ∃ kA kc nA nc, x = .returned (.tuple #[.agg #[.int .i64 2, .int .i64 v, .string ⟨#[]⟩, .slice kA 0 kc, .slice nA 0 nc], .int .i64 0])) ∧ (fit = false → x = .returned (.tuple #[.agg #[.int .i64 0, .int .i64 0, .string ⟨#[]⟩, .slice none 0 0, .slice none 0 0], .int .i64 1]))
theorem nuP_of (b : Bool) (N : Nat) (hl : (dgT N).length ≤ 60000) (w : World) (x : Ending) (w' : World) (h : ParP (sgnT b ++ dgT N) w x w') : NuP (fitsJ (if b then -(N : Int) else N)) (if b then -(N : Int) else N) x ∧ Below w.heap.size w w' := by
  have hp := par_dg b N hl
  generalize (if b then -(N : Int) else (N : Int)) = v at hp ⊢
  obtain ⟨h1, h2, h3⟩ := h
  refine ⟨⟨fun hf => ?_, fun hf => ?_⟩, h3⟩
  · rw [if_pos hf] at hp
    obtain ⟨cs, e1, e2⟩ := h1 _ hp
    obtain ⟨kA, kc, nA, nc, e3, _⟩ := e2.parts
    rw [labJ_leaf, kidsJ_leaf] at e3
    exact ⟨kA, kc, nA, nc, by rw [e1, e3]; rfl⟩
  · rw [hf] at hp
    exact h2 1 hp
/-- What follows the digits: the same for each number. -/
def NuRest (w : World) (S3 : ByteArray) (t : VJ 40) (k : Nat) : Prop :=
  (∀ W, Below w.heap.size w W → Calls Tryz.prog 14 #[.string S3] W fun x w' => (∃ cs, x = .returned (.tuple #[.agg cs, .int .i64 k]) ∧ Hid (VAt (fun _ => True) 40 w' cs t)) ∧ Below W.heap.size W w') ∧
  (∀ W, Calls Tryz.prog 17 #[.string S3] W fun x w' => (∃ cs, x = .returned (.tuple #[.agg cs, .int .i64 k]) ∧ Hid (VAt (fun _ => True) 40 w' cs t)) ∧ Below W.heap.size W w') ∧
  (∀ cx cy W, VAt (fun _ => True) 40 W cx t → VAt (fun _ => True) 40 W cy t → Calls Tryz.prog 15 #[.agg cx, .agg cy] W fun x w' => x = .returned (.bool true) ∧ Below W.heap.size W w') ∧
  (∀ W, Below w.heap.size w W → Calls Tryz.prog 9 #[] W fun x w' => x = .returned (.bool true) ∧ Below W.heap.size W w')
theorem nuRest (l : List UInt8) (w : World) (hT : TabX w) (S3 : ByteArray) (hS : S3 = asS l) : ∃ t k, NuRest w S3 t k := by
  obtain ⟨t, k, hwt, hpp⟩ := parP_both l
  subst hS
  exact ⟨t, k, fun W hb => (parseP_any l W ⟨hT.1.below hb, Nat.lt_of_lt_of_le hT.2 hb.size⟩).mono fun x w' hh => hpp W x w' hh, fun W => (refParse_any valQ_whole l W).mono fun x w' hh => hpp W x w' hh, fun cx cy W h1 h2 => (sameR_any 40 _ _ hwt hwt _ _ cx cy W h1 h2).mono fun e w' hh => ⟨by rw [hh.1, eqJ_yes rfl], hh.2⟩, fun W hb => awake16 W (Nat.lt_of_lt_of_le hT.2 hb.size) (hT.1.below hb)⟩
set_option maxHeartbeats 16000000 in
set_option maxRecDepth 100000 in
theorem numbers_law (b : Bool) (N : Nat) (hN : N < 18446744073709551616) (a : ByteArray) (w : World) (hT : TabX w) : Calls Tryz.prog 7 #[.bool b, .int .u64 (N : Int), .string a] w fun e w' => e = .returned (.bool true) ∧ Below w.heap.size w w' := by
  have HAW := hid (fun W (hb : Below w.heap.size w W) => awake16 W (Nat.lt_of_lt_of_le hT.2 hb.size) (hT.1.below hb))
  by_cases h3 : 300 < a.size
  · have i3 : (300 : Int) < (a.size : Int) := by omega
    have HA := hid (HAW.out w (Below.refl _ _))
    clear HAW
    go_enter Tryz.func7, Tryz.ntmps7
    go_wp2_with fail
    refine HA.out.mono ?_
    rintro e W1 ⟨rfl, hb⟩
    have HB1 := hid hb
    clear hb
    go_wp2_with fail
    go_ret
    exact ⟨rfl, HB1.out⟩
  · have i3 : ¬ (300 : Int) < (a.size : Int) := by omega
    have HTX := hid hT
    clear HAW hT
    go_enter Tryz.func7, Tryz.ntmps7
    go_wp2_with fail
    go_loopw [7, 8] (fun a7 a8 wr => ∃ (s : List UInt8) (k : Nat), a7 = .string (asS s) ∧ a8 = .int .u64 (k : Int) ∧ Hid (DgI N k s) ∧ Hid (k * 10 ^ s.length ≤ N) ∧ k ≤ N ∧ Hid (Below w.heap.size w wr)) (fun a7 a8 wr => nuM a7 a8)
    case atStart => exact ⟨[], N, rfl, rfl, .inl ⟨rfl, rfl⟩, by show _ ≤ _; simp, Nat.le_refl _, Below.refl _ _⟩
    case round =>
      obtain ⟨s, k, rfl, rfl, HI, HL, hkN, HB⟩ := hrel
      by_cases hk : 0 < k
      · have hk0 : (0 : Int) < (k : Int) := by omega
        have hsl := slice_tenU (k % 10) (by omega)
        have hw1 : IntKind.u64.wrap ((k : Int) / 10) = ((k / 10 : Nat) : Int) := by rw [IntKind.wrap_u64]; omega
        obtain ⟨DG, hDG⟩ : ∃ DG, (⟨#[48, 49, 50, 51, 52, 53, 54, 55, 56, 57]⟩ : ByteArray).extract (k % 10) (k % 10 + 1) = DG := ⟨_, rfl⟩
        have HDG : Hid (DG = asS [UInt8.ofNat (48 + k % 10)]) := by rw [← hDG]; exact ten_ext (k % 10) (by omega)
        have hsz1 : DG.size = 1 := by rw [HDG.out]; exact asS_size _
        have hs20 : s.length < 20 := len_20 HL.out hN (by exact .inl hk)
        have hsz2 : (asS s).size = s.length := asS_size s
        obtain ⟨S, hS⟩ : ∃ S, asS s = S := ⟨_, rfl⟩
        have HSS := hid hS
        rw [hS] at hsz2 ⊢
        have hsum : ¬ 9223372036854775807 < DG.size + S.size := by omega
        have HNX := hid (HI.out.step (by exact .inl hk))
        have HNL : Hid (k / 10 * 10 ^ (UInt8.ofNat (48 + k % 10) :: s).length ≤ N) := by
          show _ ≤ _
          refine Nat.le_trans ?_ HL.out
          rw [List.length_cons, Nat.pow_succ, Nat.mul_comm (10 ^ s.length) 10, ← Nat.mul_assoc]
          exact Nat.mul_le_mul_right _ (by omega)
        have HCAT : Hid (DG ++ S = asS (UInt8.ofNat (48 + k % 10) :: s)) := by
          show _ = _
          rw [HDG.out, ← HSS.out, asS_app]
          rfl
        clear hS hsl
        go_wp2_with fail
        go_roundw
        case rel => exact ⟨_, k / 10, by rw [HCAT.out], rfl, HNX, HNL, by omega, HB⟩
        case measure =>
          show nuM (.string (DG ++ S)) (.int .u64 ((k / 10 : Nat) : Int)) < _
          rw [nuM_int, nuM_int, if_neg (by rw [ByteArray.size_append]; omega)]
          omega
      · obtain rfl : k = 0 := by omega
        cases s with
        | nil =>
          have hem : (asS []).toList.isEmpty = true := by rw [emp8]; simp
          have hcat : (⟨#[48, 49, 50, 51, 52, 53, 54, 55, 56, 57]⟩ : ByteArray).extract 0 1 = asS [48] := rfl
          have HNX := hid (HI.out.step (.inr rfl))
          go_wp2_with fail
          go_roundw
          case rel => exact ⟨[48], 0, by rw [asS_app]; rfl, rfl, HNX, by show _ ≤ _; omega, by omega, HB⟩
          case measure =>
            show nuM (.string (asS [48] ++ asS [])) (.int .u64 ((0 : Nat) : Int)) < nuM (.string (asS [])) (.int .u64 ((0 : Nat) : Int))
            rw [nuM_int, nuM_int, asS_app, if_neg (by rw [asS_size]; decide), if_pos (by rw [asS_size]; rfl)]
            decide
        | cons c0 s0 =>
          have hS : c0 :: s0 = dgT N := HI.out.done (by simp)
          have hl20 : (c0 :: s0).length ≤ 20 := by rw [hS]; exact dgT_len 19 N (Nat.lt_of_lt_of_le hN (by decide))
          have hem : (asS (c0 :: s0)).toList.isEmpty = false := by rw [emp8]; simp
          have hsz : (asS (c0 :: s0)).size = (c0 :: s0).length := asS_size _
          obtain ⟨S, hSS⟩ : ∃ S, asS (c0 :: s0) = S := ⟨_, rfl⟩
          rw [hSS] at hem hsz ⊢
          have HS : Hid (S = asS (dgT N)) := by rw [← hSS, hS]; rfl
          have hss20 : S.size ≤ 20 := by omega
          clear hSS
          have HLN : Hid ((dgT N).length ≤ 20) := by rw [← hS]; exact hl20
          clear hS HI HL hl20 hkN hk hsz
          by_cases i1 : (N : Int) ≤ 9223372036854775807
          · have hcv : IntKind.i64.wrap (N : Int) = (N : Int) := by rw [IntKind.wrap_i64]; omega
            have hng : IntKind.i64.wrap (-(N : Int)) = -(N : Int) := by rw [IntKind.wrap_i64]; omega
            have hng2 : wrap64 (-(N : Int)) = -(N : Int) := by unfold wrap64; omega
            cases b with
            | false =>
              obtain ⟨S2, hS2⟩ : ∃ S2, S2 = S := ⟨_, rfl⟩
              subst hS2
              have HS2 : Hid (S2 = asS (sgnT false ++ dgT N)) := HS.out
              have h7 : (sgnT false).length ≤ 1 := by decide
              have hz2 : S2.size ≤ 21 := by
                rw [HS2.out, asS_size, List.length_append]
                have := HLN.out
                omega
              clear h7
              have hsum2 : ¬ 9223372036854775807 < S2.size + a.size := by omega
              obtain ⟨S3, hS3⟩ : ∃ S3, S2 ++ a = S3 := ⟨_, rfl⟩
              obtain ⟨T, E, hrest⟩ := nuRest (sgnT false ++ dgT N ++ a.data.toList) w HTX.out S3 (by rw [← hS3, HS2.out, ← asS_app, ← asS_app, ← asS_app, asS_of])
              have HREST := hid hrest
              clear hrest
              have HP1 : Hid (Calls Tryz.prog 14 #[.string S2] wr fun x w' => (∃ kA kc nA nc, x = .returned (.tuple #[.agg #[.int .i64 2, .int .i64 ((N : Int)), .string ⟨#[]⟩, .slice kA 0 kc, .slice nA 0 nc], .int .i64 0])) ∧ Below wr.heap.size wr w') := by
                have h0 := parseP_any (sgnT false ++ dgT N) wr ⟨HTX.out.1.below HB.out, Nat.lt_of_lt_of_le HTX.out.2 HB.out.size⟩
                rw [← HS2.out] at h0
                refine h0.mono fun x w' hh => ?_
                obtain ⟨h1, h2⟩ := nuP_of false N (by have := HLN.out; omega) wr x w' hh
                refine ⟨?_, h2⟩
                exact h1.1 (by rw [fits_iff]; simp; omega)
              have hself : ((E : Int) == (E : Int)) = true := by simp
              clear HS2
              go_wp2_with fail
              refine HP1.out.mono ?_
              rintro x W1 ⟨⟨kA, kc, nA, nc, rfl⟩, hb⟩
              have HB1 := hid (HB.out.trans (hb.mono HB.out.size))
              have HN1 := hid (heap_alloc_new W1 (.cells #[.int .i64 0, .int .i64 0, .string ⟨#[]⟩, .slice none 0 0, .slice none 0 0] 25 (0, 0)))
              have HA1 := hid ((Below.refl W1.heap.size W1).alloc (Nat.le_refl _) (.cells #[.int .i64 0, .int .i64 0, .string ⟨#[]⟩, .slice none 0 0, .slice none 0 0] 25))
              clear hb HP1
              go_wp2_with (first
                | (refine wpList_store_abs rfl 25 (.tmp 9) (.tmp 44) rfl W1.heap.size 0 #[.int .i64 2, .int .i64 ((N : Int)), .string ⟨#[]⟩, .slice kA 0 kc, .slice nA 0 nc] rfl rfl 25 _ HN1.out (Nat.le_refl 5) infoVj (vcs_all _ _ _ _ _ _ _ _ _) ?_; intro V1 hO hW; rw [over_whole #[.int .i64 0, .int .i64 0, .string ⟨#[]⟩, .slice none 0 0, .slice none 0 0] #[.int .i64 2, .int .i64 ((N : Int)), .string ⟨#[]⟩, .slice kA 0 kc, .slice nA 0 nc] rfl] at hW; have hBW : Below W1.heap.size W1 V1 := HA1.out.trans (hO.below (Nat.le_refl _)); have HBV1 : Hid (Below w.heap.size w V1) := HB1.out.trans (hBW.mono HB1.out.size); have v0 : V1.cell? ⟨W1.heap.size, 0, none⟩ = some (.int .i64 2) := cell_of_row _ _ _ _ _ _ hW; have v1 : V1.cell? ⟨W1.heap.size, 1, none⟩ = some (.int .i64 ((N : Int))) := cell_of_row _ _ _ _ _ _ hW; have HC1 := hid (HREST.out.1 V1 HBV1.out); clear hO hW hBW)
                | fail)
              refine HC1.out.mono ?_
              rintro x W2 ⟨⟨cx, rfl, HV2⟩, hb⟩
              have HB2 := hid (HBV1.out.trans (hb.mono HBV1.out.size))
              have HN2 := hid (heap_alloc_new W2 (.cells #[.int .i64 0, .int .i64 0, .string ⟨#[]⟩, .slice none 0 0, .slice none 0 0] 25 (0, 0)))
              have HA2 := hid ((Below.refl W2.heap.size W2).alloc (Nat.le_refl _) (.cells #[.int .i64 0, .int .i64 0, .string ⟨#[]⟩, .slice none 0 0, .slice none 0 0] 25))
              clear hb HC1 HBV1 v0 v1 HN1 HA1
              go_wp2_with (first
                | (refine wpList_store_abs rfl 25 (.tmp 13) (.tmp 89) rfl W2.heap.size 0 cx rfl rfl 25 _ HN2.out (by rw [HV2.out.size]; exact Nat.le_refl _) (by rw [HV2.out.size]; exact infoVj) (vcs_one HV2.out) ?_; intro V2 hO hW; rw [over_whole #[.int .i64 0, .int .i64 0, .string ⟨#[]⟩, .slice none 0 0, .slice none 0 0] cx (by rw [HV2.out.size]; rfl)] at hW; have hBW : Below W2.heap.size W2 V2 := HA2.out.trans (hO.below (Nat.le_refl _)); have HBV2 : Hid (Below w.heap.size w V2) := HB2.out.trans (hBW.mono HB2.out.size); have HRX := hid hW; have HVX := hid (HV2.out.below hBW (Nat.le_refl _)); have HR1 := hid (HREST.out.2.1 V2); clear hO hW hBW)
                | fail)
              clear HV2 HN2 HA2 HB2
              refine HR1.out.mono ?_
              rintro e W3 ⟨⟨cy, rfl, HV3⟩, hb⟩
              have HB3 := hid (HBV2.out.trans (hb.mono HBV2.out.size))
              have HRX3 := hid (row_keep hb HRX.out)
              have HVX3 := hid (HVX.out.below hb (Nat.le_refl _))
              have HN3 := hid (heap_alloc_new W3 (.cells #[.int .i64 0, .int .i64 0, .string ⟨#[]⟩, .slice none 0 0, .slice none 0 0] 25 (0, 0)))
              have HA3 := hid ((Below.refl W3.heap.size W3).alloc (Nat.le_refl _) (.cells #[.int .i64 0, .int .i64 0, .string ⟨#[]⟩, .slice none 0 0, .slice none 0 0] 25))
              have HZX := hid HVX.out.size
              clear hb HR1 HBV2 HRX HVX
              go_wp2_with (first
                | (refine wpList_store_abs rfl 25 (.tmp 15) (.tmp 96) rfl W3.heap.size 0 cy rfl rfl 25 _ HN3.out (by rw [HV3.out.size]; exact Nat.le_refl _) (by rw [HV3.out.size]; exact infoVj) (vcs_one HV3.out) ?_; intro V3 hO hW; rw [over_whole #[.int .i64 0, .int .i64 0, .string ⟨#[]⟩, .slice none 0 0, .slice none 0 0] cy (by rw [HV3.out.size]; rfl)] at hW; have hBW : Below W3.heap.size W3 V3 := HA3.out.trans (hO.below (Nat.le_refl _)); have HBV3 : Hid (Below w.heap.size w V3) := HB3.out.trans (hBW.mono HB3.out.size); have HRXV := hid (row_keep hBW HRX3.out); have HVXV := hid (HVX3.out.below hBW (Nat.le_refl _)); have HVYV := hid (HV3.out.below hBW (Nat.le_refl _)); have hldx := loadV_run HRXV.out HZX.out; have hldy := loadV_run hW HV3.out.size; have HS1 := hid (HREST.out.2.2.1 cx cy V3 HVXV.out HVYV.out); clear hO hW hBW)
                | fail)
              clear HV3 HN3 HA3 HB3 HRX3 HVX3
              refine HS1.out.mono ?_
              rintro e W4 ⟨rfl, hb⟩
              have HB4 := hid (HBV3.out.trans (hb.mono HBV3.out.size))
              have HA4 := hid (HREST.out.2.2.2 W4 HB4.out)
              clear hb HS1 HBV3
              go_wp2_with fail
              refine HA4.out.mono ?_
              rintro e W5 ⟨rfl, hb⟩
              have HB5 := hid (HB4.out.trans (hb.mono HB4.out.size))
              clear hb
              go_wp2_with fail
              go_ret
              exact ⟨rfl, HB5.out⟩
            | true =>
              obtain ⟨S2, hS2⟩ : ∃ S2, (⟨#[45]⟩ : ByteArray) ++ S = S2 := ⟨_, rfl⟩
              have HS2 : Hid (S2 = asS (sgnT true ++ dgT N)) := by
                show _ = _
                rw [← hS2, HS.out]
                exact asS_app [45] (dgT N)
              have h7 : (sgnT true).length ≤ 1 := by decide
              have hz2 : S2.size ≤ 21 := by
                rw [HS2.out, asS_size, List.length_append]
                have := HLN.out
                omega
              clear h7
              have hsum2 : ¬ 9223372036854775807 < S2.size + a.size := by omega
              have hsum1 : ¬ 9223372036854775807 < 1 + S.size := by omega
              obtain ⟨S3, hS3⟩ : ∃ S3, S2 ++ a = S3 := ⟨_, rfl⟩
              obtain ⟨T, E, hrest⟩ := nuRest (sgnT true ++ dgT N ++ a.data.toList) w HTX.out S3 (by rw [← hS3, HS2.out, ← asS_app, ← asS_app, ← asS_app, asS_of])
              have HREST := hid hrest
              clear hrest
              have HP1 : Hid (Calls Tryz.prog 14 #[.string S2] wr fun x w' => (∃ kA kc nA nc, x = .returned (.tuple #[.agg #[.int .i64 2, .int .i64 (-(N : Int)), .string ⟨#[]⟩, .slice kA 0 kc, .slice nA 0 nc], .int .i64 0])) ∧ Below wr.heap.size wr w') := by
                have h0 := parseP_any (sgnT true ++ dgT N) wr ⟨HTX.out.1.below HB.out, Nat.lt_of_lt_of_le HTX.out.2 HB.out.size⟩
                rw [← HS2.out] at h0
                refine h0.mono fun x w' hh => ?_
                obtain ⟨h1, h2⟩ := nuP_of true N (by have := HLN.out; omega) wr x w' hh
                refine ⟨?_, h2⟩
                exact h1.1 (by rw [fits_iff]; show _ ∧ _; simp only [if_true]; omega)
              have hself : ((E : Int) == (E : Int)) = true := by simp
              clear HS2
              go_wp2_with fail
              refine HP1.out.mono ?_
              rintro x W1 ⟨⟨kA, kc, nA, nc, rfl⟩, hb⟩
              have HB1 := hid (HB.out.trans (hb.mono HB.out.size))
              have HN1 := hid (heap_alloc_new W1 (.cells #[.int .i64 0, .int .i64 0, .string ⟨#[]⟩, .slice none 0 0, .slice none 0 0] 25 (0, 0)))
              have HA1 := hid ((Below.refl W1.heap.size W1).alloc (Nat.le_refl _) (.cells #[.int .i64 0, .int .i64 0, .string ⟨#[]⟩, .slice none 0 0, .slice none 0 0] 25))
              clear hb HP1
              go_wp2_with (first
                | (refine wpList_store_abs rfl 25 (.tmp 9) (.tmp 44) rfl W1.heap.size 0 #[.int .i64 2, .int .i64 (-(N : Int)), .string ⟨#[]⟩, .slice kA 0 kc, .slice nA 0 nc] rfl rfl 25 _ HN1.out (Nat.le_refl 5) infoVj (vcs_all _ _ _ _ _ _ _ _ _) ?_; intro V1 hO hW; rw [over_whole #[.int .i64 0, .int .i64 0, .string ⟨#[]⟩, .slice none 0 0, .slice none 0 0] #[.int .i64 2, .int .i64 (-(N : Int)), .string ⟨#[]⟩, .slice kA 0 kc, .slice nA 0 nc] rfl] at hW; have hBW : Below W1.heap.size W1 V1 := HA1.out.trans (hO.below (Nat.le_refl _)); have HBV1 : Hid (Below w.heap.size w V1) := HB1.out.trans (hBW.mono HB1.out.size); have v0 : V1.cell? ⟨W1.heap.size, 0, none⟩ = some (.int .i64 2) := cell_of_row _ _ _ _ _ _ hW; have v1 : V1.cell? ⟨W1.heap.size, 1, none⟩ = some (.int .i64 (-(N : Int))) := cell_of_row _ _ _ _ _ _ hW; have HC1 := hid (HREST.out.1 V1 HBV1.out); clear hO hW hBW)
                | fail)
              refine HC1.out.mono ?_
              rintro x W2 ⟨⟨cx, rfl, HV2⟩, hb⟩
              have HB2 := hid (HBV1.out.trans (hb.mono HBV1.out.size))
              have HN2 := hid (heap_alloc_new W2 (.cells #[.int .i64 0, .int .i64 0, .string ⟨#[]⟩, .slice none 0 0, .slice none 0 0] 25 (0, 0)))
              have HA2 := hid ((Below.refl W2.heap.size W2).alloc (Nat.le_refl _) (.cells #[.int .i64 0, .int .i64 0, .string ⟨#[]⟩, .slice none 0 0, .slice none 0 0] 25))
              clear hb HC1 HBV1 v0 v1 HN1 HA1
              go_wp2_with (first
                | (refine wpList_store_abs rfl 25 (.tmp 13) (.tmp 89) rfl W2.heap.size 0 cx rfl rfl 25 _ HN2.out (by rw [HV2.out.size]; exact Nat.le_refl _) (by rw [HV2.out.size]; exact infoVj) (vcs_one HV2.out) ?_; intro V2 hO hW; rw [over_whole #[.int .i64 0, .int .i64 0, .string ⟨#[]⟩, .slice none 0 0, .slice none 0 0] cx (by rw [HV2.out.size]; rfl)] at hW; have hBW : Below W2.heap.size W2 V2 := HA2.out.trans (hO.below (Nat.le_refl _)); have HBV2 : Hid (Below w.heap.size w V2) := HB2.out.trans (hBW.mono HB2.out.size); have HRX := hid hW; have HVX := hid (HV2.out.below hBW (Nat.le_refl _)); have HR1 := hid (HREST.out.2.1 V2); clear hO hW hBW)
                | fail)
              clear HV2 HN2 HA2 HB2
              refine HR1.out.mono ?_
              rintro e W3 ⟨⟨cy, rfl, HV3⟩, hb⟩
              have HB3 := hid (HBV2.out.trans (hb.mono HBV2.out.size))
              have HRX3 := hid (row_keep hb HRX.out)
              have HVX3 := hid (HVX.out.below hb (Nat.le_refl _))
              have HN3 := hid (heap_alloc_new W3 (.cells #[.int .i64 0, .int .i64 0, .string ⟨#[]⟩, .slice none 0 0, .slice none 0 0] 25 (0, 0)))
              have HA3 := hid ((Below.refl W3.heap.size W3).alloc (Nat.le_refl _) (.cells #[.int .i64 0, .int .i64 0, .string ⟨#[]⟩, .slice none 0 0, .slice none 0 0] 25))
              have HZX := hid HVX.out.size
              clear hb HR1 HBV2 HRX HVX
              go_wp2_with (first
                | (refine wpList_store_abs rfl 25 (.tmp 15) (.tmp 96) rfl W3.heap.size 0 cy rfl rfl 25 _ HN3.out (by rw [HV3.out.size]; exact Nat.le_refl _) (by rw [HV3.out.size]; exact infoVj) (vcs_one HV3.out) ?_; intro V3 hO hW; rw [over_whole #[.int .i64 0, .int .i64 0, .string ⟨#[]⟩, .slice none 0 0, .slice none 0 0] cy (by rw [HV3.out.size]; rfl)] at hW; have hBW : Below W3.heap.size W3 V3 := HA3.out.trans (hO.below (Nat.le_refl _)); have HBV3 : Hid (Below w.heap.size w V3) := HB3.out.trans (hBW.mono HB3.out.size); have HRXV := hid (row_keep hBW HRX3.out); have HVXV := hid (HVX3.out.below hBW (Nat.le_refl _)); have HVYV := hid (HV3.out.below hBW (Nat.le_refl _)); have hldx := loadV_run HRXV.out HZX.out; have hldy := loadV_run hW HV3.out.size; have HS1 := hid (HREST.out.2.2.1 cx cy V3 HVXV.out HVYV.out); clear hO hW hBW)
                | fail)
              clear HV3 HN3 HA3 HB3 HRX3 HVX3
              refine HS1.out.mono ?_
              rintro e W4 ⟨rfl, hb⟩
              have HB4 := hid (HBV3.out.trans (hb.mono HBV3.out.size))
              have HA4 := hid (HREST.out.2.2.2 W4 HB4.out)
              clear hb HS1 HBV3
              go_wp2_with fail
              refine HA4.out.mono ?_
              rintro e W5 ⟨rfl, hb⟩
              have HB5 := hid (HB4.out.trans (hb.mono HB4.out.size))
              clear hb
              go_wp2_with fail
              go_ret
              exact ⟨rfl, HB5.out⟩
          · cases b with
            | false =>
              obtain ⟨ZC, hZC⟩ : ∃ ZC : Array Value, ZC = #[.int .i64 0, .int .i64 0, .string ⟨#[]⟩, .slice none 0 0, .slice none 0 0] := ⟨_, rfl⟩
              have HZC := hid hZC
              have hzc5 : ZC.size = 5 := by rw [hZC]; rfl
              have HZA : Hid (ZC.all (·.oneCell') = true) := by rw [hZC]; exact vcs_all _ _ _ _ _ _ _ _ _
              clear hZC
              obtain ⟨S2, hS2⟩ : ∃ S2, S2 = S := ⟨_, rfl⟩
              subst hS2
              have HS2 : Hid (S2 = asS (sgnT false ++ dgT N)) := HS.out
              have h7 : (sgnT false).length ≤ 1 := by decide
              have hz2 : S2.size ≤ 21 := by
                rw [HS2.out, asS_size, List.length_append]
                have := HLN.out
                omega
              clear h7
              have hsum2 : ¬ 9223372036854775807 < S2.size + a.size := by omega
              obtain ⟨S3, hS3⟩ : ∃ S3, S2 ++ a = S3 := ⟨_, rfl⟩
              obtain ⟨T, E, hrest⟩ := nuRest (sgnT false ++ dgT N ++ a.data.toList) w HTX.out S3 (by rw [← hS3, HS2.out, ← asS_app, ← asS_app, ← asS_app, asS_of])
              have HREST := hid hrest
              clear hrest
              have HP1 : Hid (Calls Tryz.prog 14 #[.string S2] wr fun x w' => x = .returned (.tuple #[.agg ZC, .int .i64 1]) ∧ Below wr.heap.size wr w') := by
                have h0 := parseP_any (sgnT false ++ dgT N) wr ⟨HTX.out.1.below HB.out, Nat.lt_of_lt_of_le HTX.out.2 HB.out.size⟩
                rw [← HS2.out] at h0
                refine h0.mono fun x w' hh => ?_
                obtain ⟨h1, h2⟩ := nuP_of false N (by have := HLN.out; omega) wr x w' hh
                refine ⟨?_, h2⟩
                rw [HZC.out]
                refine h1.2 ?_
                rw [Bool.eq_false_iff]
                intro h
                rw [fits_iff] at h
                simp at h
                omega
              have hself : ((E : Int) == (E : Int)) = true := by simp
              clear HS2
              go_wp2_with fail
              refine HP1.out.mono ?_
              rintro x W1 ⟨rfl, hb⟩
              have HB1 := hid (HB.out.trans (hb.mono HB.out.size))
              have HN1 := hid (heap_alloc_new W1 (.cells #[.int .i64 0, .int .i64 0, .string ⟨#[]⟩, .slice none 0 0, .slice none 0 0] 25 (0, 0)))
              have HA1 := hid ((Below.refl W1.heap.size W1).alloc (Nat.le_refl _) (.cells #[.int .i64 0, .int .i64 0, .string ⟨#[]⟩, .slice none 0 0, .slice none 0 0] 25))
              clear hb HP1
              go_upto_region 11 with (first
                | (refine wpList_store_abs rfl 25 (.tmp 9) (.tmp 44) rfl W1.heap.size 0 ZC rfl rfl 25 _ HN1.out (by rw [hzc5]; exact Nat.le_refl _) (by rw [hzc5]; exact infoVj) HZA.out ?_; intro V1 hO hW; rw [over_whole #[.int .i64 0, .int .i64 0, .string ⟨#[]⟩, .slice none 0 0, .slice none 0 0] ZC (by rw [hzc5]; rfl)] at hW; have hBW : Below W1.heap.size W1 V1 := HA1.out.trans (hO.below (Nat.le_refl _)); have HBV1 : Hid (Below w.heap.size w V1) := HB1.out.trans (hBW.mono HB1.out.size); have v0 : V1.cell? ⟨W1.heap.size, 0, none⟩ = some (.int .i64 0) := (by rw [HZC.out] at hW; exact cell_of_row _ _ _ _ _ _ hW); have v1 : V1.cell? ⟨W1.heap.size, 1, none⟩ = some (.int .i64 0) := (by rw [HZC.out] at hW; exact cell_of_row _ _ _ _ _ _ hW); have HC1 := hid (HREST.out.1 V1 HBV1.out); clear hO hW hBW)
                | fail)
              go_upto_region 15 with fail
              generalize wrap64 (N : Int) = WV
              go_wp2_with fail
              refine HC1.out.mono ?_
              rintro x W2 ⟨⟨cx, rfl, HV2⟩, hb⟩
              have HB2 := hid (HBV1.out.trans (hb.mono HBV1.out.size))
              have HN2 := hid (heap_alloc_new W2 (.cells #[.int .i64 0, .int .i64 0, .string ⟨#[]⟩, .slice none 0 0, .slice none 0 0] 25 (0, 0)))
              have HA2 := hid ((Below.refl W2.heap.size W2).alloc (Nat.le_refl _) (.cells #[.int .i64 0, .int .i64 0, .string ⟨#[]⟩, .slice none 0 0, .slice none 0 0] 25))
              clear hb HC1 HBV1 v0 v1 HN1 HA1
              go_wp2_with (first
                | (refine wpList_store_abs rfl 25 (.tmp 13) (.tmp 89) rfl W2.heap.size 0 cx rfl rfl 25 _ HN2.out (by rw [HV2.out.size]; exact Nat.le_refl _) (by rw [HV2.out.size]; exact infoVj) (vcs_one HV2.out) ?_; intro V2 hO hW; rw [over_whole #[.int .i64 0, .int .i64 0, .string ⟨#[]⟩, .slice none 0 0, .slice none 0 0] cx (by rw [HV2.out.size]; rfl)] at hW; have hBW : Below W2.heap.size W2 V2 := HA2.out.trans (hO.below (Nat.le_refl _)); have HBV2 : Hid (Below w.heap.size w V2) := HB2.out.trans (hBW.mono HB2.out.size); have HRX := hid hW; have HVX := hid (HV2.out.below hBW (Nat.le_refl _)); have HR1 := hid (HREST.out.2.1 V2); clear hO hW hBW)
                | fail)
              clear HV2 HN2 HA2 HB2
              refine HR1.out.mono ?_
              rintro e W3 ⟨⟨cy, rfl, HV3⟩, hb⟩
              have HB3 := hid (HBV2.out.trans (hb.mono HBV2.out.size))
              have HRX3 := hid (row_keep hb HRX.out)
              have HVX3 := hid (HVX.out.below hb (Nat.le_refl _))
              have HN3 := hid (heap_alloc_new W3 (.cells #[.int .i64 0, .int .i64 0, .string ⟨#[]⟩, .slice none 0 0, .slice none 0 0] 25 (0, 0)))
              have HA3 := hid ((Below.refl W3.heap.size W3).alloc (Nat.le_refl _) (.cells #[.int .i64 0, .int .i64 0, .string ⟨#[]⟩, .slice none 0 0, .slice none 0 0] 25))
              have HZX := hid HVX.out.size
              clear hb HR1 HBV2 HRX HVX
              go_wp2_with (first
                | (refine wpList_store_abs rfl 25 (.tmp 15) (.tmp 96) rfl W3.heap.size 0 cy rfl rfl 25 _ HN3.out (by rw [HV3.out.size]; exact Nat.le_refl _) (by rw [HV3.out.size]; exact infoVj) (vcs_one HV3.out) ?_; intro V3 hO hW; rw [over_whole #[.int .i64 0, .int .i64 0, .string ⟨#[]⟩, .slice none 0 0, .slice none 0 0] cy (by rw [HV3.out.size]; rfl)] at hW; have hBW : Below W3.heap.size W3 V3 := HA3.out.trans (hO.below (Nat.le_refl _)); have HBV3 : Hid (Below w.heap.size w V3) := HB3.out.trans (hBW.mono HB3.out.size); have HRXV := hid (row_keep hBW HRX3.out); have HVXV := hid (HVX3.out.below hBW (Nat.le_refl _)); have HVYV := hid (HV3.out.below hBW (Nat.le_refl _)); have hldx := loadV_run HRXV.out HZX.out; have hldy := loadV_run hW HV3.out.size; have HS1 := hid (HREST.out.2.2.1 cx cy V3 HVXV.out HVYV.out); clear hO hW hBW)
                | fail)
              clear HV3 HN3 HA3 HB3 HRX3 HVX3
              refine HS1.out.mono ?_
              rintro e W4 ⟨rfl, hb⟩
              have HB4 := hid (HBV3.out.trans (hb.mono HBV3.out.size))
              have HA4 := hid (HREST.out.2.2.2 W4 HB4.out)
              clear hb HS1 HBV3
              go_wp2_with fail
              refine HA4.out.mono ?_
              rintro e W5 ⟨rfl, hb⟩
              have HB5 := hid (HB4.out.trans (hb.mono HB4.out.size))
              clear hb
              go_wp2_with fail
              go_ret
              exact ⟨rfl, HB5.out⟩
            | true =>
              by_cases hN63 : N = 9223372036854775808
              · subst hN63
                have hcv : IntKind.i64.wrap 9223372036854775808 = -9223372036854775808 := by rw [IntKind.wrap_i64]; rfl
                have hng : IntKind.i64.wrap (- -9223372036854775808) = -9223372036854775808 := by rw [IntKind.wrap_i64]; rfl
                have hng2 : wrap64 9223372036854775808 = -9223372036854775808 := by unfold wrap64; rfl
                obtain ⟨S2, hS2⟩ : ∃ S2, (⟨#[45]⟩ : ByteArray) ++ S = S2 := ⟨_, rfl⟩
                have HS2 : Hid (S2 = asS (sgnT true ++ dgT 9223372036854775808)) := by
                  show _ = _
                  rw [← hS2, HS.out]
                  exact asS_app [45] (dgT 9223372036854775808)
                have h7 : (sgnT true).length ≤ 1 := by decide
                have hz2 : S2.size ≤ 21 := by
                  rw [HS2.out, asS_size, List.length_append]
                  have := HLN.out
                  omega
                clear h7
                have hsum2 : ¬ 9223372036854775807 < S2.size + a.size := by omega
                have hsum1 : ¬ 9223372036854775807 < 1 + S.size := by omega
                obtain ⟨S3, hS3⟩ : ∃ S3, S2 ++ a = S3 := ⟨_, rfl⟩
                obtain ⟨T, E, hrest⟩ := nuRest (sgnT true ++ dgT 9223372036854775808 ++ a.data.toList) w HTX.out S3 (by rw [← hS3, HS2.out, ← asS_app, ← asS_app, ← asS_app, asS_of])
                have HREST := hid hrest
                clear hrest
                have HP1 : Hid (Calls Tryz.prog 14 #[.string S2] wr fun x w' => (∃ kA kc nA nc, x = .returned (.tuple #[.agg #[.int .i64 2, .int .i64 (-9223372036854775808), .string ⟨#[]⟩, .slice kA 0 kc, .slice nA 0 nc], .int .i64 0])) ∧ Below wr.heap.size wr w') := by
                  have h0 := parseP_any (sgnT true ++ dgT 9223372036854775808) wr ⟨HTX.out.1.below HB.out, Nat.lt_of_lt_of_le HTX.out.2 HB.out.size⟩
                  rw [← HS2.out] at h0
                  refine h0.mono fun x w' hh => ?_
                  obtain ⟨h1, h2⟩ := nuP_of true 9223372036854775808 (by have := HLN.out; omega) wr x w' hh
                  refine ⟨?_, h2⟩
                  exact h1.1 (by rw [fits_iff]; show _ ∧ _; simp only [if_true]; omega)
                have hself : ((E : Int) == (E : Int)) = true := by simp
                clear HS2
                go_wp2_with fail
                refine HP1.out.mono ?_
                rintro x W1 ⟨⟨kA, kc, nA, nc, rfl⟩, hb⟩
                have HB1 := hid (HB.out.trans (hb.mono HB.out.size))
                have HN1 := hid (heap_alloc_new W1 (.cells #[.int .i64 0, .int .i64 0, .string ⟨#[]⟩, .slice none 0 0, .slice none 0 0] 25 (0, 0)))
                have HA1 := hid ((Below.refl W1.heap.size W1).alloc (Nat.le_refl _) (.cells #[.int .i64 0, .int .i64 0, .string ⟨#[]⟩, .slice none 0 0, .slice none 0 0] 25))
                clear hb HP1
                go_wp2_with (first
                  | (refine wpList_store_abs rfl 25 (.tmp 9) (.tmp 44) rfl W1.heap.size 0 #[.int .i64 2, .int .i64 (-9223372036854775808), .string ⟨#[]⟩, .slice kA 0 kc, .slice nA 0 nc] rfl rfl 25 _ HN1.out (Nat.le_refl 5) infoVj (vcs_all _ _ _ _ _ _ _ _ _) ?_; intro V1 hO hW; rw [over_whole #[.int .i64 0, .int .i64 0, .string ⟨#[]⟩, .slice none 0 0, .slice none 0 0] #[.int .i64 2, .int .i64 (-9223372036854775808), .string ⟨#[]⟩, .slice kA 0 kc, .slice nA 0 nc] rfl] at hW; have hBW : Below W1.heap.size W1 V1 := HA1.out.trans (hO.below (Nat.le_refl _)); have HBV1 : Hid (Below w.heap.size w V1) := HB1.out.trans (hBW.mono HB1.out.size); have v0 : V1.cell? ⟨W1.heap.size, 0, none⟩ = some (.int .i64 2) := cell_of_row _ _ _ _ _ _ hW; have v1 : V1.cell? ⟨W1.heap.size, 1, none⟩ = some (.int .i64 (-9223372036854775808)) := cell_of_row _ _ _ _ _ _ hW; have HC1 := hid (HREST.out.1 V1 HBV1.out); clear hO hW hBW)
                  | fail)
                refine HC1.out.mono ?_
                rintro x W2 ⟨⟨cx, rfl, HV2⟩, hb⟩
                have HB2 := hid (HBV1.out.trans (hb.mono HBV1.out.size))
                have HN2 := hid (heap_alloc_new W2 (.cells #[.int .i64 0, .int .i64 0, .string ⟨#[]⟩, .slice none 0 0, .slice none 0 0] 25 (0, 0)))
                have HA2 := hid ((Below.refl W2.heap.size W2).alloc (Nat.le_refl _) (.cells #[.int .i64 0, .int .i64 0, .string ⟨#[]⟩, .slice none 0 0, .slice none 0 0] 25))
                clear hb HC1 HBV1 v0 v1 HN1 HA1
                go_wp2_with (first
                  | (refine wpList_store_abs rfl 25 (.tmp 13) (.tmp 89) rfl W2.heap.size 0 cx rfl rfl 25 _ HN2.out (by rw [HV2.out.size]; exact Nat.le_refl _) (by rw [HV2.out.size]; exact infoVj) (vcs_one HV2.out) ?_; intro V2 hO hW; rw [over_whole #[.int .i64 0, .int .i64 0, .string ⟨#[]⟩, .slice none 0 0, .slice none 0 0] cx (by rw [HV2.out.size]; rfl)] at hW; have hBW : Below W2.heap.size W2 V2 := HA2.out.trans (hO.below (Nat.le_refl _)); have HBV2 : Hid (Below w.heap.size w V2) := HB2.out.trans (hBW.mono HB2.out.size); have HRX := hid hW; have HVX := hid (HV2.out.below hBW (Nat.le_refl _)); have HR1 := hid (HREST.out.2.1 V2); clear hO hW hBW)
                  | fail)
                clear HV2 HN2 HA2 HB2
                refine HR1.out.mono ?_
                rintro e W3 ⟨⟨cy, rfl, HV3⟩, hb⟩
                have HB3 := hid (HBV2.out.trans (hb.mono HBV2.out.size))
                have HRX3 := hid (row_keep hb HRX.out)
                have HVX3 := hid (HVX.out.below hb (Nat.le_refl _))
                have HN3 := hid (heap_alloc_new W3 (.cells #[.int .i64 0, .int .i64 0, .string ⟨#[]⟩, .slice none 0 0, .slice none 0 0] 25 (0, 0)))
                have HA3 := hid ((Below.refl W3.heap.size W3).alloc (Nat.le_refl _) (.cells #[.int .i64 0, .int .i64 0, .string ⟨#[]⟩, .slice none 0 0, .slice none 0 0] 25))
                have HZX := hid HVX.out.size
                clear hb HR1 HBV2 HRX HVX
                go_wp2_with (first
                  | (refine wpList_store_abs rfl 25 (.tmp 15) (.tmp 96) rfl W3.heap.size 0 cy rfl rfl 25 _ HN3.out (by rw [HV3.out.size]; exact Nat.le_refl _) (by rw [HV3.out.size]; exact infoVj) (vcs_one HV3.out) ?_; intro V3 hO hW; rw [over_whole #[.int .i64 0, .int .i64 0, .string ⟨#[]⟩, .slice none 0 0, .slice none 0 0] cy (by rw [HV3.out.size]; rfl)] at hW; have hBW : Below W3.heap.size W3 V3 := HA3.out.trans (hO.below (Nat.le_refl _)); have HBV3 : Hid (Below w.heap.size w V3) := HB3.out.trans (hBW.mono HB3.out.size); have HRXV := hid (row_keep hBW HRX3.out); have HVXV := hid (HVX3.out.below hBW (Nat.le_refl _)); have HVYV := hid (HV3.out.below hBW (Nat.le_refl _)); have hldx := loadV_run HRXV.out HZX.out; have hldy := loadV_run hW HV3.out.size; have HS1 := hid (HREST.out.2.2.1 cx cy V3 HVXV.out HVYV.out); clear hO hW hBW)
                  | fail)
                clear HV3 HN3 HA3 HB3 HRX3 HVX3
                refine HS1.out.mono ?_
                rintro e W4 ⟨rfl, hb⟩
                have HB4 := hid (HBV3.out.trans (hb.mono HBV3.out.size))
                have HA4 := hid (HREST.out.2.2.2 W4 HB4.out)
                clear hb HS1 HBV3
                go_wp2_with fail
                refine HA4.out.mono ?_
                rintro e W5 ⟨rfl, hb⟩
                have HB5 := hid (HB4.out.trans (hb.mono HB4.out.size))
                clear hb
                go_wp2_with fail
                go_ret
                exact ⟨rfl, HB5.out⟩
              · have i2 : ((N : Int) == 9223372036854775808) = false := by rw [beq_eq_false_iff_ne]; omega
                obtain ⟨ZC, hZC⟩ : ∃ ZC : Array Value, ZC = #[.int .i64 0, .int .i64 0, .string ⟨#[]⟩, .slice none 0 0, .slice none 0 0] := ⟨_, rfl⟩
                have HZC := hid hZC
                have hzc5 : ZC.size = 5 := by rw [hZC]; rfl
                have HZA : Hid (ZC.all (·.oneCell') = true) := by rw [hZC]; exact vcs_all _ _ _ _ _ _ _ _ _
                clear hZC
                obtain ⟨S2, hS2⟩ : ∃ S2, (⟨#[45]⟩ : ByteArray) ++ S = S2 := ⟨_, rfl⟩
                have HS2 : Hid (S2 = asS (sgnT true ++ dgT N)) := by
                  show _ = _
                  rw [← hS2, HS.out]
                  exact asS_app [45] (dgT N)
                have h7 : (sgnT true).length ≤ 1 := by decide
                have hz2 : S2.size ≤ 21 := by
                  rw [HS2.out, asS_size, List.length_append]
                  have := HLN.out
                  omega
                clear h7
                have hsum2 : ¬ 9223372036854775807 < S2.size + a.size := by omega
                have hsum1 : ¬ 9223372036854775807 < 1 + S.size := by omega
                obtain ⟨S3, hS3⟩ : ∃ S3, S2 ++ a = S3 := ⟨_, rfl⟩
                obtain ⟨T, E, hrest⟩ := nuRest (sgnT true ++ dgT N ++ a.data.toList) w HTX.out S3 (by rw [← hS3, HS2.out, ← asS_app, ← asS_app, ← asS_app, asS_of])
                have HREST := hid hrest
                clear hrest
                have HP1 : Hid (Calls Tryz.prog 14 #[.string S2] wr fun x w' => x = .returned (.tuple #[.agg ZC, .int .i64 1]) ∧ Below wr.heap.size wr w') := by
                  have h0 := parseP_any (sgnT true ++ dgT N) wr ⟨HTX.out.1.below HB.out, Nat.lt_of_lt_of_le HTX.out.2 HB.out.size⟩
                  rw [← HS2.out] at h0
                  refine h0.mono fun x w' hh => ?_
                  obtain ⟨h1, h2⟩ := nuP_of true N (by have := HLN.out; omega) wr x w' hh
                  refine ⟨?_, h2⟩
                  rw [HZC.out]
                  refine h1.2 ?_
                  rw [Bool.eq_false_iff]
                  intro h
                  rw [fits_iff] at h
                  simp only [if_true] at h
                  omega
                have hself : ((E : Int) == (E : Int)) = true := by simp
                clear HS2
                go_wp2_with fail
                refine HP1.out.mono ?_
                rintro x W1 ⟨rfl, hb⟩
                have HB1 := hid (HB.out.trans (hb.mono HB.out.size))
                have HN1 := hid (heap_alloc_new W1 (.cells #[.int .i64 0, .int .i64 0, .string ⟨#[]⟩, .slice none 0 0, .slice none 0 0] 25 (0, 0)))
                have HA1 := hid ((Below.refl W1.heap.size W1).alloc (Nat.le_refl _) (.cells #[.int .i64 0, .int .i64 0, .string ⟨#[]⟩, .slice none 0 0, .slice none 0 0] 25))
                clear hb HP1
                go_upto_region 11 with (first
                  | (refine wpList_store_abs rfl 25 (.tmp 9) (.tmp 44) rfl W1.heap.size 0 ZC rfl rfl 25 _ HN1.out (by rw [hzc5]; exact Nat.le_refl _) (by rw [hzc5]; exact infoVj) HZA.out ?_; intro V1 hO hW; rw [over_whole #[.int .i64 0, .int .i64 0, .string ⟨#[]⟩, .slice none 0 0, .slice none 0 0] ZC (by rw [hzc5]; rfl)] at hW; have hBW : Below W1.heap.size W1 V1 := HA1.out.trans (hO.below (Nat.le_refl _)); have HBV1 : Hid (Below w.heap.size w V1) := HB1.out.trans (hBW.mono HB1.out.size); have v0 : V1.cell? ⟨W1.heap.size, 0, none⟩ = some (.int .i64 0) := (by rw [HZC.out] at hW; exact cell_of_row _ _ _ _ _ _ hW); have v1 : V1.cell? ⟨W1.heap.size, 1, none⟩ = some (.int .i64 0) := (by rw [HZC.out] at hW; exact cell_of_row _ _ _ _ _ _ hW); have HC1 := hid (HREST.out.1 V1 HBV1.out); clear hO hW hBW)
                  | fail)
                go_upto_region 15 with fail
                generalize wrap64 (N : Int) = WV
                go_upto_region 17 with fail
                go_wp2_with fail
                refine HC1.out.mono ?_
                rintro x W2 ⟨⟨cx, rfl, HV2⟩, hb⟩
                have HB2 := hid (HBV1.out.trans (hb.mono HBV1.out.size))
                have HN2 := hid (heap_alloc_new W2 (.cells #[.int .i64 0, .int .i64 0, .string ⟨#[]⟩, .slice none 0 0, .slice none 0 0] 25 (0, 0)))
                have HA2 := hid ((Below.refl W2.heap.size W2).alloc (Nat.le_refl _) (.cells #[.int .i64 0, .int .i64 0, .string ⟨#[]⟩, .slice none 0 0, .slice none 0 0] 25))
                clear hb HC1 HBV1 v0 v1 HN1 HA1
                go_wp2_with (first
                  | (refine wpList_store_abs rfl 25 (.tmp 13) (.tmp 89) rfl W2.heap.size 0 cx rfl rfl 25 _ HN2.out (by rw [HV2.out.size]; exact Nat.le_refl _) (by rw [HV2.out.size]; exact infoVj) (vcs_one HV2.out) ?_; intro V2 hO hW; rw [over_whole #[.int .i64 0, .int .i64 0, .string ⟨#[]⟩, .slice none 0 0, .slice none 0 0] cx (by rw [HV2.out.size]; rfl)] at hW; have hBW : Below W2.heap.size W2 V2 := HA2.out.trans (hO.below (Nat.le_refl _)); have HBV2 : Hid (Below w.heap.size w V2) := HB2.out.trans (hBW.mono HB2.out.size); have HRX := hid hW; have HVX := hid (HV2.out.below hBW (Nat.le_refl _)); have HR1 := hid (HREST.out.2.1 V2); clear hO hW hBW)
                  | fail)
                clear HV2 HN2 HA2 HB2
                refine HR1.out.mono ?_
                rintro e W3 ⟨⟨cy, rfl, HV3⟩, hb⟩
                have HB3 := hid (HBV2.out.trans (hb.mono HBV2.out.size))
                have HRX3 := hid (row_keep hb HRX.out)
                have HVX3 := hid (HVX.out.below hb (Nat.le_refl _))
                have HN3 := hid (heap_alloc_new W3 (.cells #[.int .i64 0, .int .i64 0, .string ⟨#[]⟩, .slice none 0 0, .slice none 0 0] 25 (0, 0)))
                have HA3 := hid ((Below.refl W3.heap.size W3).alloc (Nat.le_refl _) (.cells #[.int .i64 0, .int .i64 0, .string ⟨#[]⟩, .slice none 0 0, .slice none 0 0] 25))
                have HZX := hid HVX.out.size
                clear hb HR1 HBV2 HRX HVX
                go_wp2_with (first
                  | (refine wpList_store_abs rfl 25 (.tmp 15) (.tmp 96) rfl W3.heap.size 0 cy rfl rfl 25 _ HN3.out (by rw [HV3.out.size]; exact Nat.le_refl _) (by rw [HV3.out.size]; exact infoVj) (vcs_one HV3.out) ?_; intro V3 hO hW; rw [over_whole #[.int .i64 0, .int .i64 0, .string ⟨#[]⟩, .slice none 0 0, .slice none 0 0] cy (by rw [HV3.out.size]; rfl)] at hW; have hBW : Below W3.heap.size W3 V3 := HA3.out.trans (hO.below (Nat.le_refl _)); have HBV3 : Hid (Below w.heap.size w V3) := HB3.out.trans (hBW.mono HB3.out.size); have HRXV := hid (row_keep hBW HRX3.out); have HVXV := hid (HVX3.out.below hBW (Nat.le_refl _)); have HVYV := hid (HV3.out.below hBW (Nat.le_refl _)); have hldx := loadV_run HRXV.out HZX.out; have hldy := loadV_run hW HV3.out.size; have HS1 := hid (HREST.out.2.2.1 cx cy V3 HVXV.out HVYV.out); clear hO hW hBW)
                  | fail)
                clear HV3 HN3 HA3 HB3 HRX3 HVX3
                refine HS1.out.mono ?_
                rintro e W4 ⟨rfl, hb⟩
                have HB4 := hid (HBV3.out.trans (hb.mono HBV3.out.size))
                have HA4 := hid (HREST.out.2.2.2 W4 HB4.out)
                clear hb HS1 HBV3
                go_wp2_with fail
                refine HA4.out.mono ?_
                rintro e W5 ⟨rfl, hb⟩
                have HB5 := hid (HB4.out.trans (hb.mono HB4.out.size))
                clear hb
                go_wp2_with fail
                go_ret
                exact ⟨rfl, HB5.out⟩
end Go.Proofs.YtlgkbdebpnbndaaGreatDoor
namespace Go.Proofs.YtlgkbdebpnbndaaGreatDoor
open Go.RowKit Go.BigFrame
theorem numbersT_law (b : Bool) (X : Int) (a : ByteArray) (w : World) (hX : (Lit.int .u64 X).wf = true) (hT : TabX w) : Calls Tryz.prog 7 #[.bool b, .int .u64 X, .string a] w fun e w' => e = .returned (.bool true) ∧ Below w.heap.size w w' := by
  have hb : 0 ≤ X ∧ X < 18446744073709551616 := by
    simp [Lit.wf, IntKind.min, IntKind.max, IntKind.signed, IntKind.bits] at hX
    omega
  obtain ⟨N, rfl⟩ : ∃ N : Nat, X = (N : Int) := ⟨X.toNat, by omega⟩
  exact numbers_law b N (by omega) a w hT
end Go.Proofs.YtlgkbdebpnbndaaGreatDoor
namespace Go.Proofs.YtlgkbdebpnbndaaGreatDoor.jsonNumbers
open Go.ChangeShapes Go.WideShapes Go.ChangeAt Go.RowKit
open Go.ChangeMaps (open_string shut_string)
set_option maxRecDepth 100000

theorem contract (H : Type) (enc : TypeId × Value → H) (W : World) (base : Nat) (args : Array Value) (ds gs : List (DataW H)) (before : List MemPlace)
    (hval : ∀ (j : Nat) t v, Tryz.f7.params[j]? = some t → args[j]? = some v → Value.okWide Tryz.prog W .any base t v)
    (hW : DataW.Whole enc Tryz.prog Tryz.f7.params.toList Rows.jsonNumbersSpec.vars false W args.toList ds gs before) (hL : laidMetH Tryz.prog Rows.jsonNumbersRow.laid W) (hS : W.ShapedOpen Tryz.prog) :
    Calls Tryz.prog 7 args W fun e W' => ∃ v, e = .returned v ∧ Rows.jsonNumbersSpec.post enc Tryz.prog Tryz.f7 false true false false W args v W' := by
  have hW' := hW
  obtain ⟨p, q, hA0, hV, rfl, hfz, hnd⟩ := hW
  have hA : DataW.TrodAll enc Tryz.prog W 0 (fun _ => true) true Tryz.f7.params.toList args.toList ds p := hA0
  rw [Tryz.params7] at hA hval
  obtain ⟨v0, vs0, d0, ds0, p0, q0, hargs, rfl, rfl, h0, r0⟩ := trodAll_cons hA
  obtain ⟨v1, vs1, d1, ds1, p1, q1, rfl, rfl, rfl, h1, r1⟩ := trodAll_cons r0
  obtain ⟨v2, vs2, d2, ds2, p2, q2, rfl, rfl, rfl, h2, r2⟩ := trodAll_cons r1
  obtain ⟨rfl, rfl, rfl⟩ := trodAll_nil r2
  obtain rfl : args = #[v0, v1, v2] := by cases args; simp_all
  obtain ⟨rfl, rfl⟩ := trodVars_none hV
  obtain ⟨a0, rfl, rfl, rfl⟩ := open_bool Tryz.underlying4 (hval 0 4 v0 rfl rfl) h0
  obtain ⟨a1, rfl, rfl, rfl, w1⟩ := open_int Tryz.underlying43 (hval 1 43 v1 rfl rfl) h1
  obtain ⟨a2, rfl, rfl, rfl, w2⟩ := open_string Tryz.underlying9 (hval 2 9 v2 rfl rfl) h2
  clear hA0
  simp only [List.append_nil] at hW'
  refine (numbersT_law a0 a1 a2 W  w1  (tables_jsonNumbers hL hS)).mono fun e W' ⟨he, bel⟩ => ?_
  subst he
  exact ⟨_, rfl, _, _, _, [], _, [], hW', trodAll_mk1 (shut_bool Tryz.underlying4 _), (trodAll_cons_mk (shut_bool Tryz.underlying4 _) (trodAll_cons_mk (shut_int Tryz.underlying43 w1) (trodAll_cons_mk (shut_string Tryz.underlying9 w2) trodAll_mk0))), rfl, bel.frame _, fun h => by cases h⟩

theorem laid_met (os : Os) : laidMet Tryz.prog Rows.jsonNumbersRow.laid ((layTables (World.holding Tryz.prog os ⟨#[], #[], []⟩)).forCall (fun _ _ => 0) ⟨#[], #[.bool false, .int .u64 0, .string ByteArray.empty], []⟩).memory :=
  laidMet_of_run' 8 (by kernel_rfl) (by kernel_rfl)
theorem reads (os : Os) {H : Type} (enc : TypeId × Value → H) : ∃ places, DataW.whole enc Tryz.prog ((layTables (World.holding Tryz.prog os ⟨#[], #[], []⟩)).forCall (fun _ _ => 0) ⟨#[], #[.bool false, .int .u64 0, .string ByteArray.empty], []⟩).memory Tryz.f7.params.toList Rows.jsonNumbersSpec.vars false (#[.bool false, .int .u64 0, .string ByteArray.empty] : Array Value).toList 8 = some ([.lit (.bool false), .lit (.int .u64 0), .lit (.string [])], [], places) :=
  ⟨[], by kernel_rfl⟩

theorem lifted (os : Os) (started : os.Started) (H : Type) (enc : TypeId × Value → H) (F : Stop.Interp) :
    ReturnsInHanded {} Tryz.checked os 7 .any ((OpenSpec.ofChange Rows.jsonNumbersSpec).preRow enc Tryz.prog Tryz.f7 Rows.jsonNumbersRow.domain false Rows.jsonNumbersRow.laid) (((OpenSpec.ofChange Rows.jsonNumbersSpec).at F).post enc Tryz.prog Tryz.f7 false true false false) := by
  obtain ⟨places, hx⟩ := reads os enc
  refine returnsInHanded_of_row (C := Tryz.checked) (s := OpenSpec.ofChange Rows.jsonNumbersSpec) own started (by kernel_rfl) Tryz.func7
    (witness_row_at (enc := enc) (C := Tryz.checked) false (layTables (World.holding Tryz.prog os ⟨#[], #[], []⟩)) #[.bool false, .int .u64 0, .string ByteArray.empty] rfl (by kernel_rfl) (by kernel_rfl) (by kernel_rfl)
      (OpenSpec.preRow_of_cond 8 hx (by kernel_rfl) (fun k hk => by cases hk) (by kernel_rfl) (laid_met os))) ?_
  intro W base args ds gs before hval hW _ _ _ hL hS _
  exact contract H enc W base args ds gs before hval hW hL hS

theorem said : Rows.JsonNumbersSaid :=
  OpenClaim.holds_of_cond 7 Tryz.f7 rfl rfl rfl rfl rfl rfl rfl ⟨rfl, rfl, rfl, rfl, rfl⟩ rfl rfl rfl rfl rfl (by kernel_rfl) Tryz.func7 (by kernel_rfl)
    (of_decide_eq_true (by kernel_rfl)) (by unfold Func.isWrapper; first | (rw [if_pos (by decide +kernel)]; kernel_rfl) | (rw [if_neg (by decide +kernel)]; exact ⟨rfl, rfl⟩))
    (fun os started H enc _ F => by rw [OpenClaim.pre_eq_preRow]; exact lifted os started H enc F)

theorem plain (f : FuncId) (fn : Func) (hf : Tryz.pinned.checked.prog.funcNamed Rows.jsonNumbersRow.func = some f) (hfn : Tryz.pinned.checked.prog.funcs[f]? = some fn) :
    true = Tryz.pinned.checked.prog.looks [] ∧ ∀ (j : Nat) t, fn.params[j]? = some t → Tryz.pinned.checked.prog.wantsStandIn t = false := by
  obtain rfl : f = 7 := Option.some.inj ((show Tryz.prog.funcNamed Rows.jsonNumbersRow.func = some 7 by kernel_rfl).symm.trans hf) |>.symm
  obtain rfl : fn = Tryz.f7 := (Option.some.inj (Tryz.func7.symm.trans hfn)).symm
  refine ⟨by kernel_rfl, fun j t ht => ?_⟩
  rw [Tryz.params7] at ht
  have ht2 := Array.mem_of_getElem? ht
  simp only [List.mem_toArray, List.mem_cons, List.not_mem_nil, or_false] at ht2
  rcases ht2 with rfl | rfl | rfl
  · exact (show Tryz.prog.wantsStandIn 4 = false by kernel_rfl)
  · exact (show Tryz.prog.wantsStandIn 43 = false by kernel_rfl)
  · exact (show Tryz.prog.wantsStandIn 9 = false by kernel_rfl)

end Go.Proofs.YtlgkbdebpnbndaaGreatDoor.jsonNumbers
namespace Go.Proofs.YtlgkbdebpnbndaaGreatDoor

theorem jsonNumbers_card : Rows.JsonNumbersCardSaid :=
  Claim7.holds_tied_plain_at .later [] _ _ _ _ jsonNumbers.said (fun _ h => by cases h) (by kernel_rfl) (fun _ h => by cases h) jsonNumbers_row_tie rfl ⟨rfl, rfl⟩ (by kernel_rfl) rfl jsonNumbers.plain (by kernel_rfl)

end Go.Proofs.YtlgkbdebpnbndaaGreatDoor
