
/- The law on numbers that stand for runes. -/
import Derived.Test.YtkeghpghhmajiaaDoorEnELaw
import Derived.OpenShut
namespace Go.Proofs.YtkeghpghhmajiaaDoor
set_option linter.unusedVariables false
set_option linter.unusedSimpArgs false
open Go.RowKit Go.BigFrame Go.WideShapes Go.ChangeShapes

/-- The sign of a digit. -/
def dchar (j : Nat) : UInt8 := if j < 10 then bt (48 + j) else bt (55 + j)
theorem dchar_dig : ∀ j : Fin 16, digE (dchar j.val) = j.val := by decide +kernel
theorem foldE (b : Nat) : ∀ (l : List UInt8) (a : Nat), l.foldl (fun a c => a * b + digE c) a = a * b ^ l.length + numE b l
  | [], a => by simp [numE]
  | c :: l, a => by
    rw [List.foldl_cons, foldE b l, show numE b (c :: l) = l.foldl (fun a c => a * b + digE c) (0 * b + digE c) from rfl, foldE b l (0 * b + digE c), List.length_cons, Nat.pow_succ, Nat.add_mul, Nat.zero_mul, Nat.zero_add, Nat.mul_comm (b ^ l.length) b, ← Nat.mul_assoc, Nat.add_assoc]
theorem numE_cons (b : Nat) (c : UInt8) (l : List UInt8) : numE b (c :: l) = digE c * b ^ l.length + numE b l := by
  rw [show numE b (c :: l) = l.foldl (fun a c => a * b + digE c) (0 * b + digE c) from rfl, foldE, Nat.zero_mul, Nat.zero_add]
/-- Digits are put ahead: k is still to be written, d is. -/
structure InvD (b n k : Nat) (d : List UInt8) : Prop where
  val : k * b ^ d.length + numE b d = n
  all : okD b d = true
  min : d.length ≤ 1 ∨ b ^ (d.length - 1) ≤ n
  sum : d.length + k ≤ n + 1
theorem InvD.zero (b n : Nat) : InvD b n n [] := ⟨by simp [numE], rfl, .inl (by simp), by simp⟩
theorem InvD.step {b n k : Nat} {d : List UInt8} (hb : 10 ≤ b) (hb2 : b ≤ 16) (h : InvD b n k d) (hk : 0 < k ∨ d = []) : InvD b n (k / b) (dchar (k % b) :: d) := by
  have hlt : k % b < b := Nat.mod_lt _ (by omega)
  have hdg : digE (dchar (k % b)) = k % b := dchar_dig ⟨k % b, by omega⟩
  refine ⟨?_, ?_, ?_, ?_⟩
  · rw [numE_cons, hdg, List.length_cons, Nat.pow_succ, ← h.val]
    have h1 := Nat.div_add_mod k b
    have h2 : k / b * (b ^ d.length * b) + k % b * b ^ d.length = k * b ^ d.length := by
      rw [Nat.mul_comm (b ^ d.length) b, ← Nat.mul_assoc, ← Nat.add_mul, Nat.mul_comm (k / b) b, h1]
    omega
  · show (decide (digE (dchar (k % b)) < b) && okD b d) = true
    rw [hdg, h.all, decide_eq_true hlt]; rfl
  · rcases hk with hk | rfl
    · right
      rw [List.length_cons, Nat.add_sub_cancel]
      have h1 := h.val
      have h2 : 1 * b ^ d.length ≤ k * b ^ d.length := Nat.mul_le_mul_right _ hk
      omega
    · left; simp
  · have h3 := h.sum
    rcases hk with hk | rfl
    · have : k / b < k := Nat.div_lt_self hk (by omega)
      rw [List.length_cons]; omega
    · have : k / b ≤ k := Nat.div_le_self _ _
      by_cases hk : 0 < k
      · have : k / b < k := Nat.div_lt_self hk (by omega)
        simp at h3 ⊢; omega
      · simp at h3 ⊢; omega
theorem InvD.len {b n k : Nat} {d : List UInt8} (hb : 10 ≤ b) (h : InvD b n k d) (hn : n < 4294967296) : d.length ≤ 10 := by
  rcases h.min with h1 | h1
  · omega
  · by_cases h2 : d.length ≤ 10
    · exact h2
    · have h3 : b ^ 10 ≤ b ^ (d.length - 1) := Nat.pow_le_pow_right (by omega) (by omega)
      have h4 : 10 ^ 10 ≤ b ^ 10 := Nat.pow_le_pow_left hb 10
      rw [show (10 : Nat) ^ 10 = 10000000000 from by decide] at h4
      omega
theorem okD_mem {b : Nat} {d : List UInt8} (h : okD b d = true) {c : UInt8} (hc : c ∈ d) : digE c < b := by
  simpa using List.all_eq_true.1 h c hc
/-- A reference alone. -/
theorem unA_ref (b : List UInt8) (h59 : ∀ c ∈ b, c ≠ 59) (ha : ∀ c ∈ b, c.toNat < 128) : unA (38 :: (b ++ [59])) = (runeR b).map encL := by
  have hV : V (38 :: (b ++ [59])) = true := by
    have := V_ascii (38 :: (b ++ [59])) [] (fun c hc => by
      rcases List.mem_cons.1 hc with rfl | hc
      · decide
      · rcases List.mem_append.1 hc with hc | hc
        · exact ha c hc
        · rw [List.mem_singleton.1 hc]; decide)
    rw [List.append_nil] at this
    rw [this]; rfl
  unfold unA
  rw [hV, if_pos rfl]
  cases hr : runeR b with
  | none => rw [unL_bad (b ++ [59]) b [] (cutE_mk b [] h59) hr]; rfl
  | some n => rw [unL_ok (b ++ [59]) b [] n (cutE_mk b [] h59) hr, unL_nil]; simp
theorem runeN_big {n : Nat} (h : 1114111 < n) : runeN n = none := by
  unfold runeN
  rw [show validR n = false from by unfold validR; rw [decide_eq_false (by omega)]]
  rfl
theorem numR_inv {b most n : Nat} {d : List UInt8} (h : InvD b n 0 d) (hd : d ≠ []) (hb : 10 ≤ b) (hm : 1114111 < b ^ most) : numR b most d = runeN n := by
  have hv := h.val
  rw [Nat.zero_mul, Nat.zero_add] at hv
  by_cases hl : d.length ≤ most
  · rw [numR_ok hd hl h.all, hv]
  · rw [numR_long (by omega), runeN_big]
    rcases h.min with h1 | h1
    · have : most = 0 := by omega
      subst this
      simp at hm
    · have : b ^ most ≤ b ^ (d.length - 1) := Nat.pow_le_pow_right (by omega) (by omega)
      omega
theorem dig_59 {b : Nat} (hb : b ≤ 16) {c : UInt8} (h : digE c < b) : c ≠ 59 ∧ c ≠ 120 := by
  have h1 : digE 59 = 99 := by decide
  have h2 : digE 120 = 99 := by decide
  refine ⟨fun e => ?_, fun e => ?_⟩
  · rw [e] at h; omega
  · rw [e] at h; omega
theorem dec_ref {n : Nat} {d : List UInt8} (h : InvD 10 n 0 d) (hd : d ≠ []) : unA (38 :: 35 :: (d ++ [59])) = (runeN n).map encL := by
  have c := unA_ref (35 :: d) (fun c hc => by
    rcases List.mem_cons.1 hc with rfl | hc
    · decide
    · exact (dig_59 (by decide) (okD_mem h.all hc)).1) (fun c hc => by
    rcases List.mem_cons.1 hc with rfl | hc
    · decide
    · exact dig_ascii 10 (by decide) c (okD_mem h.all hc))
  rw [List.cons_append] at c
  rw [c]
  cases d with
  | nil => exact absurd rfl hd
  | cons x t => rw [run_dec x t (dig_59 (by decide) (okD_mem h.all (by simp))).2, numR_inv h hd (by decide) (by decide)]
theorem hex_ref {n : Nat} {d : List UInt8} (h : InvD 16 n 0 d) (hd : d ≠ []) : unA (38 :: 35 :: 120 :: (d ++ [59])) = (runeN n).map encL := by
  have c := unA_ref (35 :: 120 :: d) (fun c hc => by
    rcases List.mem_cons.1 hc with rfl | hc
    · decide
    · rcases List.mem_cons.1 hc with rfl | hc
      · decide
      · exact (dig_59 (by decide) (okD_mem h.all hc)).1) (fun c hc => by
    rcases List.mem_cons.1 hc with rfl | hc
    · decide
    · rcases List.mem_cons.1 hc with rfl | hc
      · decide
      · exact dig_ascii 16 (by decide) c (okD_mem h.all hc))
  rw [List.cons_append, List.cons_append] at c
  rw [c, run_hex, numR_inv h hd (by decide) (by decide)]
theorem errX_one (v : Nat) (hv : validR v = true) : errX (encL v) = xmlE (xmlN v) := by
  have hV : V (encL v) = true := by
    have := V_enc v hv []
    rw [List.append_nil] at this
    rw [this]; rfl
  unfold errX
  rw [hV, if_pos rfl, show xmlB (asS (encL v)) = xmlN v from by unfold xmlB; rw [show asS (encL v) = ⟨(encL v).toArray⟩ from rfl, runes_one v hv]; simp]
  rfl
theorem slice32_run (S : ByteArray) (a b : Nat) (i j : Int) (hi : i = (a : Int)) (hj : j = (b : Int)) (h1 : a ≤ b) (h2 : b ≤ S.size) (x : ByteArray) (hx : S.extract a b = x) (W : World) : (Instr.slice 9 (.string S) (some (.int .u32 i)) (some (.int .u32 j)) none).run Tryd.prog W = .ok (.string x) W := by
  subst hi; subst hj; subst hx
  rw [run_slice_string W 9 S .u32 .u32 a b Tryd.underlying9 (by omega) (by omega) (by omega)]
  simp
def dec10 : List UInt8 := [48, 49, 50, 51, 52, 53, 54, 55, 56, 57]
def dec16 : List UInt8 := [48, 49, 50, 51, 52, 53, 54, 55, 56, 57, 65, 66, 67, 68, 69, 70]
theorem cut10 : ∀ j : Fin 10, (dec10.drop j.val).take (j.val + 1 - j.val) = [dchar j.val] := by decide +kernel
theorem cut16 : ∀ j : Fin 16, (dec16.drop j.val).take (j.val + 1 - j.val) = [dchar j.val] := by decide +kernel
theorem sl10 (r : Nat) (hr : r < 10) (W : World) : (Instr.slice 9 (.string ⟨#[48, 49, 50, 51, 52, 53, 54, 55, 56, 57]⟩) (some (.int .u32 (r : Int))) (some (.int .u32 ((r : Int) + 1))) none).run Tryd.prog W = .ok (.string (asS [dchar r])) W :=
  slice32_run (asS dec10) r (r + 1) _ _ rfl (by omega) (by omega) (by show r + 1 ≤ 10; omega) _ (by rw [ext_asS, asS_data, cut10 ⟨r, hr⟩]) W
theorem sl16 (r : Nat) (hr : r < 16) (W : World) : (Instr.slice 9 (.string ⟨#[48, 49, 50, 51, 52, 53, 54, 55, 56, 57, 65, 66, 67, 68, 69, 70]⟩) (some (.int .u32 (r : Int))) (some (.int .u32 ((r : Int) + 1))) none).run Tryd.prog W = .ok (.string (asS [dchar r])) W :=
  slice32_run (asS dec16) r (r + 1) _ _ rfl (by omega) (by omega) (by show r + 1 ≤ 16; omega) _ (by rw [ext_asS, asS_data, cut16 ⟨r, hr⟩]) W
/-- A text's length, for the measure. -/
def lenV (v : Value) : Nat := match v with
  | .string b => b.size
  | _ => 0
set_option maxHeartbeats 8000000 in
set_option maxRecDepth 1000000 in
theorem numbers_any (n : Nat) (hn : (n : Int) < 4294967296) (w : World) (hT : TabE w) : Calls Tryd.prog 6 #[.int .u32 (n : Int)] w fun e w' => e = .returned (.bool true) ∧ Below w.heap.size w w' := by
  have HT := hid hT
  have HA := hid (fun W hW => awake12_any W hW)
  have HUN := hid (fun l hl W hW => unescape_any l hl W hW)
  have HUT := hid (fun W => Utf8_any n hn W)
  have HCK := hid (fun l hl W => refErr_any l hl W)
  have HNN : Hid (n < 4294967296) := by show _ < _; omega
  have HDR := hid (fun d h hd => dec_ref (n := n) (d := d) h hd)
  have HHR := hid (fun d h hd => hex_ref (n := n) (d := d) h hd)
  have HI0 := hid (InvD.zero 10 n)
  have HJ0 := hid (InvD.zero 16 n)
  clear hT
  go_enter Tryd.func6, Tryd.ntmps6
  go_wp2_with fail
  go_loop [3, 5] (fun s q => ∃ (k : Nat) (d : List UInt8), s = .string (asS d) ∧ q = .int .u32 (k : Int) ∧ (k : Int) < 4294967296 ∧ Hid (InvD 10 n k d)) (fun s q => (intOf q).toNat + (1 - lenV s))
  case atStart => exact ⟨n, [], rfl, rfl, hn, HI0⟩
  case round =>
    obtain ⟨k, d, rfl, rfl, hk, HI⟩ := hrel
    have hdl := HI.out.len (by decide) HNN.out
    have hsz := asS_size d
    by_cases hgo : 0 < k ∨ d = []
    · have HS := hid (HI.out.step (by decide) (by decide) hgo)
      obtain ⟨r, hr⟩ : ∃ r, r = k % 10 := ⟨_, rfl⟩
      obtain ⟨qq, hqq⟩ : ∃ qq, qq = k / 10 := ⟨_, rfl⟩
      rw [← hr, ← hqq] at HS
      have hr1 : (k : Int) % 10 = (r : Int) := by omega
      have hr2 : (r : Int) < 10 := by omega
      have hq1 : (k : Int) / 10 = (qq : Int) := by omega
      have hq2 : (qq : Int) < 4294967296 := by omega
      have hsl := sl10 r (by omega)
      have e1 := asS_app [dchar r] d
      have e2 := catE_size [dchar r] d (by simp; omega)
      have HM : Hid (qq + (1 - ((asS ([dchar r] ++ d)).size)) < k + (1 - (asS d).size)) := by
        show _ < _
        rw [asS_size, asS_size]
        simp
        rcases hgo with h | h
        · omega
        · rw [h]; simp; omega
      generalize asS [dchar r] = SC at hsl e1 e2
      have HS1 : Hid (InvD 10 n (qq) ([dchar r] ++ d)) := HS
      generalize [dchar r] ++ d = d2 at e1 HM HS1
      clear HS
      clear hr hqq
      by_cases hk0 : 0 < (k : Int)
      · have hk9 : 0 < k := by omega
        clear hgo hsz hk0
        go_wp2_with fail
        go_round
        case rel => exact ⟨qq, d2, rfl, by go_num, by omega, HS1⟩
        case measure => simpa [intOf, lenV] using HM.out
      · have hem : (asS d).toList.isEmpty = true := by
          rw [emp8]
          exact decide_eq_true (hgo.resolve_left (by omega))
        have hk9 : ¬ 0 < k := by omega
        clear hgo hsz hk0
        go_wp2_with fail
        go_round
        case rel => exact ⟨qq, d2, rfl, by go_num, by omega, HS1⟩
        case measure => simpa [intOf, lenV] using HM.out
    · obtain rfl : k = 0 := by rcases Nat.eq_zero_or_pos k with h | h; exact h; exact absurd (.inl h) hgo
      have hd : d ≠ [] := fun h => hgo (.inr h)
      have hem : (asS d).toList.isEmpty = false := by rw [emp8]; exact decide_eq_false hd
      have e0 : ¬ (0 : Int) < ((0 : Nat) : Int) := by omega
      have HD := hid (HDR.out d HI.out hd)
      have hda : (⟨#[38, 35]⟩ : ByteArray) ++ asS d = asS ([38, 35] ++ d) := asS_app [38, 35] d
      have hdb : asS ([38, 35] ++ d) ++ (⟨#[59]⟩ : ByteArray) = asS (38 :: 35 :: (d ++ [59])) := asS_app ([38, 35] ++ d) [59]
      have hdc : ¬ (9223372036854775807 < (⟨#[38, 35]⟩ : ByteArray).size + (asS d).size) := catE_size [38, 35] d (by simp; omega)
      have hdd : ¬ (9223372036854775807 < (asS ([38, 35] ++ d)).size + (⟨#[59]⟩ : ByteArray).size) := catE_size ([38, 35] ++ d) [59] (by simp; omega)
      have HUD := hid (HUN.out (38 :: 35 :: (d ++ [59])) (by simp; omega))
      rw [HD.out] at HUD
      clear hgo hd hdl hsz HI HD HDR
      generalize asS d = DS at hem hda hdc
      generalize asS ([38, 35] ++ d) = DT at hda hdb hdd
      generalize asS (38 :: 35 :: (d ++ [59])) = DU at hdb HUD
      go_wp2_with fail
      clear hem e0
      go_loop [4, 6] (fun s q => ∃ (k : Nat) (d : List UInt8), s = .string (asS d) ∧ q = .int .u32 (k : Int) ∧ (k : Int) < 4294967296 ∧ Hid (InvD 16 n k d)) (fun s q => (intOf q).toNat + (1 - lenV s))
      case atStart => exact ⟨n, [], rfl, rfl, hn, HJ0⟩
      case round =>
        obtain ⟨k, d, rfl, rfl, hk, HI⟩ := hrel
        have hdl := HI.out.len (by decide) HNN.out
        have hsz := asS_size d
        by_cases hgo : 0 < k ∨ d = []
        · have HS := hid (HI.out.step (by decide) (by decide) hgo)
          obtain ⟨r, hr⟩ : ∃ r, r = k % 16 := ⟨_, rfl⟩
          obtain ⟨qq, hqq⟩ : ∃ qq, qq = k / 16 := ⟨_, rfl⟩
          rw [← hr, ← hqq] at HS
          have hr1 : (k : Int) % 16 = (r : Int) := by omega
          have hr2 : (r : Int) < 16 := by omega
          have hq1 : (k : Int) / 16 = (qq : Int) := by omega
          have hq2 : (qq : Int) < 4294967296 := by omega
          have hsl := sl16 r (by omega)
          have e1 := asS_app [dchar r] d
          have e2 := catE_size [dchar r] d (by simp; omega)
          have HM : Hid (qq + (1 - ((asS ([dchar r] ++ d)).size)) < k + (1 - (asS d).size)) := by
            show _ < _
            rw [asS_size, asS_size]
            simp
            rcases hgo with h | h
            · omega
            · rw [h]; simp; omega
          generalize asS [dchar r] = SC at hsl e1 e2
          have HS1 : Hid (InvD 16 n (qq) ([dchar r] ++ d)) := HS
          generalize [dchar r] ++ d = d2 at e1 HM HS1
          clear HS
          clear hr hqq
          by_cases hk0 : 0 < (k : Int)
          · have hk9 : 0 < k := by omega
            clear hgo hsz hk0
            go_wp2_with fail
            go_round
            case rel => exact ⟨qq, d2, rfl, by go_num, by omega, HS1⟩
            case measure => simpa [intOf, lenV] using HM.out
          · have hem : (asS d).toList.isEmpty = true := by
              rw [emp8]
              exact decide_eq_true (hgo.resolve_left (by omega))
            have hk9 : ¬ 0 < k := by omega
            clear hgo hsz hk0
            go_wp2_with fail
            go_round
            case rel => exact ⟨qq, d2, rfl, by go_num, by omega, HS1⟩
            case measure => simpa [intOf, lenV] using HM.out
        · obtain rfl : k = 0 := by rcases Nat.eq_zero_or_pos k with h | h; exact h; exact absurd (.inl h) hgo
          have hd : d ≠ [] := fun h => hgo (.inr h)
          have hem : (asS d).toList.isEmpty = false := by rw [emp8]; exact decide_eq_false hd
          have e0 : ¬ (0 : Int) < ((0 : Nat) : Int) := by omega
          have HD := hid (HHR.out d HI.out hd)
          have hxa : (⟨#[38, 35, 120]⟩ : ByteArray) ++ asS d = asS ([38, 35, 120] ++ d) := asS_app [38, 35, 120] d
          have hxb : asS ([38, 35, 120] ++ d) ++ (⟨#[59]⟩ : ByteArray) = asS (38 :: 35 :: 120 :: (d ++ [59])) := asS_app ([38, 35, 120] ++ d) [59]
          have hxc : ¬ (9223372036854775807 < (⟨#[38, 35, 120]⟩ : ByteArray).size + (asS d).size) := catE_size [38, 35, 120] d (by simp; omega)
          have hxd : ¬ (9223372036854775807 < (asS ([38, 35, 120] ++ d)).size + (⟨#[59]⟩ : ByteArray).size) := catE_size ([38, 35, 120] ++ d) [59] (by simp; omega)
          have HUX := hid (HUN.out (38 :: 35 :: 120 :: (d ++ [59])) (by simp; omega))
          rw [HD.out] at HUX
          clear hgo hd hdl hsz HI HD HHR HUN
          generalize asS d = XS at hem hxa hxc
          generalize asS ([38, 35, 120] ++ d) = XT at hxa hxb hxd
          generalize asS (38 :: 35 :: 120 :: (d ++ [59])) = XU at hxb HUX
          have hwn : (n : Int) ≤ 9223372036854775807 := by omega
          unfold utfS at HUT
          cases hvr : validR n with
          | false =>
            have hrn : runeN n = none := by unfold runeN; rw [hvr]; rfl
            rw [hrn] at HUD HUX
            rw [hvr] at HUT
            simp only [Bool.false_eq_true, if_false] at HUT
            have e5 : unE (Option.map encL none) = 5 := rfl
            rw [e5] at HUD HUX
            clear hvr hrn e5 HCK
            generalize asS ((Option.map encL none).getD []) = RA at HUD HUX
            generalize asS [] = RB at HUT
            go_wp2_with fail
            refine (HUD.out _ HT.out).mono ?_
            rintro e W1 ⟨rfl, hb1⟩
            have HB1 := hid hb1
            clear hb1
            go_wp2_with fail
            refine (HUX.out _ (HT.out.below HB1.out)).mono ?_
            rintro e W2 ⟨rfl, hb2⟩
            have HB2 := hid (HB1.out.trans (hb2.mono HB1.out.size))
            clear hb2
            go_wp2_with fail
            refine (HUT.out _).mono ?_
            rintro e W3 ⟨rfl, hb3⟩
            have HB3 := hid (HB2.out.trans (hb3.mono HB2.out.size))
            clear hb3
            go_wp2_with (first
              | (go_at_call 7; refine (HA.out _ (HT.out.below HB3.out)).mono ?_; rintro e W7 ⟨rfl, hb7⟩; have HB7 := hid (HB3.out.trans (hb7.mono HB3.out.size)); clear hb7)
              | fail)
            go_ret
            exact ⟨rfl, HB7.out⟩
          | true =>
            have h4 := encL_len n
            have HC := hid (HCK.out (encL n) (by omega))
            rw [errX_one n hvr] at HC
            rw [hvr] at HUT
            simp only [if_true] at HUT
            cases hxn : xmlN n with
            | false =>
              have hrn : runeN n = none := by unfold runeN; rw [hvr, hxn]; rfl
              rw [hrn] at HUD HUX
              rw [hxn] at HC
              have e7 : xmlE false = 1 := rfl
              rw [e7] at HC
              have e5 : unE (Option.map encL none) = 5 := rfl
              rw [e5] at HUD HUX
              clear hvr hrn e5 hxn e7 HCK h4
              generalize asS ((Option.map encL none).getD []) = RA at HUD HUX
              generalize asS (encL n) = RB at HUT HC
              go_wp2_with fail
              refine (HUD.out _ HT.out).mono ?_
              rintro e W1 ⟨rfl, hb1⟩
              have HB1 := hid hb1
              clear hb1
              go_wp2_with fail
              refine (HUX.out _ (HT.out.below HB1.out)).mono ?_
              rintro e W2 ⟨rfl, hb2⟩
              have HB2 := hid (HB1.out.trans (hb2.mono HB1.out.size))
              clear hb2
              go_wp2_with fail
              refine (HUT.out _).mono ?_
              rintro e W3 ⟨rfl, hb3⟩
              have HB3 := hid (HB2.out.trans (hb3.mono HB2.out.size))
              clear hb3
              go_wp2_with (first
                | (go_at_call 9; refine (HC.out _).mono ?_; rintro e W4 ⟨rfl, hb4⟩; have HB4 := hid (HB3.out.trans (hb4.mono HB3.out.size)); clear hb4)
                | (go_at_call 7; refine (HA.out _ (HT.out.below HB4.out)).mono ?_; rintro e W7 ⟨rfl, hb7⟩; have HB7 := hid (HB4.out.trans (hb7.mono HB4.out.size)); clear hb7)
                | fail)
              go_ret
              exact ⟨rfl, HB7.out⟩
            | true =>
              have hrn : runeN n = some n := by unfold runeN; rw [hvr, hxn]; rfl
              rw [hrn] at HUD HUX
              rw [hxn] at HC
              have e7 : xmlE true = 0 := rfl
              rw [e7] at HC
              have e5 : unE (Option.map encL (some n)) = 0 := rfl
              have e6 : (Option.map encL (some n)).getD [] = encL n := rfl
              rw [e5, e6] at HUD HUX
              clear hvr hrn e5 e6 hxn e7 HCK h4
              generalize asS (encL n) = RB at HUT HC HUD HUX
              go_wp2_with fail
              refine (HUD.out _ HT.out).mono ?_
              rintro e W1 ⟨rfl, hb1⟩
              have HB1 := hid hb1
              clear hb1
              go_wp2_with fail
              refine (HUX.out _ (HT.out.below HB1.out)).mono ?_
              rintro e W2 ⟨rfl, hb2⟩
              have HB2 := hid (HB1.out.trans (hb2.mono HB1.out.size))
              clear hb2
              go_wp2_with fail
              refine (HUT.out _).mono ?_
              rintro e W3 ⟨rfl, hb3⟩
              have HB3 := hid (HB2.out.trans (hb3.mono HB2.out.size))
              clear hb3
              go_wp2_with (first
                | (go_at_call 9; refine (HC.out _).mono ?_; rintro e W4 ⟨rfl, hb4⟩; have HB4 := hid (HB3.out.trans (hb4.mono HB3.out.size)); clear hb4)
                | (go_at_call 7; refine (HA.out _ (HT.out.below HB4.out)).mono ?_; rintro e W7 ⟨rfl, hb7⟩; have HB7 := hid (HB4.out.trans (hb7.mono HB4.out.size)); clear hb7)
                | fail)
              go_ret
              exact ⟨rfl, HB7.out⟩
theorem numbers_law (a : Int) (w : World) (ha : (Lit.int .u32 a).wf = true) (hT : TabE w) : Calls Tryd.prog 6 #[.int .u32 a] w fun e w' => e = .returned (.bool true) ∧ Below w.heap.size w w' := by
  have h1 := bounds_u32 ha
  have := numbers_any a.toNat (by omega) w hT
  rw [show ((a.toNat : Nat) : Int) = a from by omega] at this
  exact this
end Go.Proofs.YtkeghpghhmajiaaDoor
