
/- What url's small functions do: among, allAmong, escaped, mayStand, isScheme. -/
import Derived.Test.YtlblefcmilfjdaaGreatDoorUrUrl
import Derived.Test.YtlblefcmilfjdaaGreatDoorUrHex
import Derived.Test.YtlblefcmilfjdaaGreatDoorShelf
import Derived.Test.YtlblefcmilfjdaaGreatDoorIpRefLo
import Derived.BigQuiet
import Derived.WalkSmall
namespace Go.Proofs.YtlblefcmilfjdaaGreatDoor
open Go.RowKit Go.BigFrame

theorem u8_back (c : UInt8) : ((c.toNat : Int)).toNat.toUInt8 = c := by
  rw [Int.toNat_natCast]
  exact UInt8.ofNat_toNat
theorem among_any (s : ByteArray) (c : UInt8) (w : World) : Calls Tryz.prog 76 #[.string s, .int .u8 c.toNat] w fun e w' => e = .returned (.bool (s.data.toList.contains c)) ∧ w' = w := by
  have HI := hid (fun W => Tryz.strings_IndexByte s c.toNat W)
  rw [u8_back] at HI
  have HM := hid (indexB_mem c s.data.toList)
  generalize Lib.indexByte s.data.toList c = n at HI HM
  generalize s.data.toList.contains c = b at HM ⊢
  go_enter Tryz.func76, Tryz.ntmps76
  go_wp2_with fail
  refine (HI.out _).mono ?_
  rintro e W ⟨rfl, rfl⟩
  have hb : decide (0 ≤ n) = b := HM.out
  cases b with
  | true =>
    have h0 : 0 ≤ n := of_decide_eq_true hb
    clear hb
    go_wp2_with fail
    go_ret
    exact ⟨rfl, rfl⟩
  | false =>
    have h0 : decide (0 ≤ n) = false := hb
    clear hb
    go_wp2_with fail
    go_ret
    exact ⟨rfl, rfl⟩
theorem str_ix (s : ByteArray) (k : Nat) (h : k < s.size) (W : World) : (Instr.index 9 (.string s) (.int .i64 (k : Int))).run Tryz.prog W = .ok (.int .u8 (s.data.toList.getD k 0).toNat) W := by
  have e := ba_at s k h
  have : s[((k : Int)).toNat]? = some (s.data.toList.getD k 0) := by rw [Int.toNat_natCast, ← e]; simp [h]
  have hp : (0 : Int) ≤ (k : Int) := by omega
  simp only [Instr.index, asIntOf, Sem.run_bind, Sem.run_pure, Result.andThen_ok, run_underlying Tryz.underlying9, if_pos hp, this]
theorem all_take (p : UInt8 → Bool) (l : List UInt8) (k : Nat) (h : k < l.length) : (l.take (k + 1)).all p = ((l.take k).all p && p (l.getD k 0)) := by
  rw [take_snoc l k h, List.all_append]; simp
set_option maxHeartbeats 1000000 in
theorem allAmong_any (s t : ByteArray) (ht : t.size ≤ 1000000) (w : World) : Calls Tryz.prog 94 #[.string s, .string t] w fun e w' => e = .returned (.bool (t.data.toList.all fun c => s.data.toList.contains c)) ∧ w' = w := by
  have HA := hid (fun c W => among_any s c W)
  have HIX := hid (fun k h W => str_ix t k h W)
  have HLN : Hid (t.data.toList.length = t.size) := ba_len t
  have HBAD : Hid (∀ k, k < t.size → s.data.toList.contains (t.data.toList.getD k 0) = false → (t.data.toList.all fun c => s.data.toList.contains c) = false) := fun k hk h => by
    rw [List.all_eq_false]
    refine ⟨t.data.toList.getD k 0, ?_, by rw [h]; simp⟩
    rw [List.getD_eq_getElem?_getD, List.getElem?_eq_getElem (by rw [HLN.out]; exact hk)]
    exact List.getElem_mem _
  have HGOOD : Hid (∀ k, t.size ≤ k → ((t.data.toList.take k).all fun c => s.data.toList.contains c) = true → (t.data.toList.all fun c => s.data.toList.contains c) = true) := fun k hk h => by
    rwa [List.take_of_length_le (by rw [HLN.out]; exact hk)] at h
  have HSTEP := hid (fun k (h : k < t.data.toList.length) => all_take (fun c => s.data.toList.contains c) t.data.toList k h)
  generalize (t.data.toList.all fun c => s.data.toList.contains c) = R at HBAD HGOOD ⊢
  go_enter Tryz.func94, Tryz.ntmps94
  go_wp2_with fail
  go_loop [8] (fun i => ∃ k : Nat, k ≤ t.size ∧ i = .int .i64 (k : Int) ∧ Hid (((t.data.toList.take k).all fun c => s.data.toList.contains c) = true)) (fun i => t.size - (intOf i).toNat)
  case atStart => exact ⟨0, Nat.zero_le _, rfl, by show _ = _; simp⟩
  case round =>
    obtain ⟨k, hk, rfl, HP⟩ := hrel
    by_cases hlt : k < t.size
    · have hi : (k : Int) < (t.size : Int) := by omega
      have hix := HIX.out k hlt
      generalize hx : t.data.toList.getD k 0 = x at hix
      have HX := hid hx
      clear hx
      go_wp2_with fail
      refine (HA.out x _).mono ?_
      rintro e W ⟨rfl, rfl⟩
      cases hb : s.data.toList.contains x with
      | true =>
        have HB := hid hb
        clear hb
        go_wp2_with fail
        go_round
        case rel =>
          refine ⟨k + 1, by omega, by go_num, ?_⟩
          show _ = _
          rw [HSTEP.out k (by rw [HLN.out]; exact hlt), HP.out, HX.out, HB.out]; rfl
        case measure => simp [intOf]; omega
      | false =>
        have HR := hid (HBAD.out k hlt (by rw [HX.out]; exact hb))
        clear hb
        go_wp2_with fail
        go_ret
        exact ⟨by rw [HR.out]; rfl, rfl⟩
    · have hi : ¬ (k : Int) < (t.size : Int) := by omega
      have HR := hid (HGOOD.out k (by omega) HP.out)
      go_wp2_with fail
      go_ret
      exact ⟨by rw [HR.out]; rfl, rfl⟩

/-! escaped: the byte whose digits stand behind the first sign. -/
theorem hv_fin : ∀ n : Fin 256, hv (UInt8.ofNat n.val) = if hexU (UInt8.ofNat n.val) then some (hexV (UInt8.ofNat n.val)) else none := by decide +kernel
theorem hv_eq (c : UInt8) : hv c = if hexU c then some (hexV c) else none := by
  have := hv_fin ⟨c.toNat, c.toNat_lt⟩
  simpa only [UInt8.ofNat_toNat] using this
def escV : List UInt8 → Option UInt8
  | _ :: a :: b :: _ => if hexU a && hexU b then some (UInt8.ofNat (hexV a * 16 + hexV b)) else none
  | _ => none
theorem escV_short (l : List UInt8) (h : l.length < 3) : escV l = none := by
  match l, h with
  | [], _ => rfl
  | [_], _ => rfl
  | [_, _], _ => rfl
  | _ :: _ :: _ :: _, h => simp at h; omega
def escN (o : Option UInt8) : Int := match o with
  | some v => (v.toNat : Int)
  | none => 0
theorem ok_two (a b : UInt8) : okAt [a, b] 0 ↔ (hexU a && hexU b) = true := by
  unfold okAt
  rw [show ([a, b] : List UInt8).getD (2 * 0) 0 = a from rfl, show ([a, b] : List UInt8).getD (2 * 0 + 1) 0 = b from rfl, hv_eq a, hv_eq b]
  cases hexU a <;> cases hexU b <;> simp
theorem un_two (a b : UInt8) (h : (hexU a && hexU b) = true) : unB [a, b] 1 = [UInt8.ofNat (hexV a * 16 + hexV b)] := by
  rw [Bool.and_eq_true] at h
  show [pairB [a, b] 0] = _
  unfold pairB
  rw [show ([a, b] : List UInt8).getD (2 * 0) 0 = a from rfl, show ([a, b] : List UInt8).getD (2 * 0 + 1) 0 = b from rfl, hv_eq a, hv_eq b, h.1, h.2]
  simp only [if_true, Option.getD_some]
  rw [Nat.mul_comm]
/-- Unhex of two signs. -/
theorem unhex_two (a b : UInt8) (w : World) : Calls Tryz.prog 99 #[.string (asS [a, b])] w fun e w' => Below w.heap.size w w' ∧
    (((hexU a && hexU b) = true ∧ e = .returned (.tuple #[.slice (some ⟨w.heap.size, 0, none⟩) 1 1, .int .i64 0]) ∧ w'.cell? ⟨w.heap.size, 0, none⟩ = some (.int .u8 (UInt8.ofNat (hexV a * 16 + hexV b)).toNat)) ∨
     ((hexU a && hexU b) = false ∧ e = .returned (.tuple #[.slice none 0 0, .int .i64 5]))) := by
  refine (unhex_any (asS [a, b]) w (by show 2 ≤ 1000000; omega)).mono ?_
  rintro e w' ⟨hb, h⟩
  refine ⟨hb, ?_⟩
  rcases h with ⟨n, hn, hok, rfl, hrow⟩ | ⟨hbad, rfl⟩
  · have h2 : (asS [a, b]).size = 2 := rfl
    obtain rfl : n = 1 := by omega
    have h3 := (ok_two a b).1 (hok 0 (by omega))
    refine .inl ⟨h3, rfl, ?_⟩
    rw [show (asS [a, b]).data.toList = [a, b] from rfl, un_two a b h3] at hrow
    rw [cell_of_row _ _ _ _ _ _ hrow]
    rfl
  · refine .inr ⟨?_, rfl⟩
    rcases hbad with h1 | ⟨j, hj, h1⟩
    · exact absurd h1 (by show ¬ 2 % 2 = 1; omega)
    · have h2 : (asS [a, b]).size = 2 := rfl
      obtain rfl : j = 0 := by omega
      cases hx : (hexU a && hexU b) with
      | false => rfl
      | true => exact absurd ((ok_two a b).2 hx) h1
set_option maxHeartbeats 1000000 in
theorem escaped_any (s : ByteArray) (hs : s.size ≤ 1000000) (w : World) : Calls Tryz.prog 73 #[.string s] w fun e w' => e = .returned (.tuple #[.int .u8 (escN (escV s.data.toList)), .bool (escV s.data.toList).isSome]) ∧ Below w.heap.size w w' := by
  by_cases h3 : s.size < 3
  · have HE : Hid (escV s.data.toList = none) := escV_short _ (by rw [ba_len]; exact h3)
    have hi : (s.size : Int) < 3 := by omega
    go_enter Tryz.func73, Tryz.ntmps73
    go_wp2_with fail
    go_ret2
    exact ⟨by rw [HE.out]; rfl, Below.refl _ _⟩
  · obtain ⟨c, a, b, r, hl⟩ : ∃ c a b r, s.data.toList = c :: a :: b :: r := by
      have hl := ba_len s
      match h : s.data.toList with
      | [] => rw [h] at hl; simp at hl; omega
      | [_] => rw [h] at hl; simp at hl; omega
      | [_, _] => rw [h] at hl; simp at hl; omega
      | c :: a :: b :: r => exact ⟨c, a, b, r, rfl⟩
    have hE : s.extract 1 3 = asS [a, b] := by rw [ext_asS, hl]; rfl
    have HV : Hid (escV s.data.toList = if hexU a && hexU b then some (UInt8.ofNat (hexV a * 16 + hexV b)) else none) := by show _ = _; rw [hl]; rfl
    have HU := hid (fun W => unhex_two a b W)
    have hi : ¬ (s.size : Int) < 3 := by omega
    have hi2 : (3 : Int) ≤ (s.size : Int) := by omega
    generalize UInt8.ofNat (hexV a * 16 + hexV b) = v at HU HV
    generalize (hexU a && hexU b) = g at HU HV
    clear hl
    go_enter Tryz.func73, Tryz.ntmps73
    go_wp2_with fail
    refine (HU.out _).mono ?_
    rintro e W ⟨hb, ⟨rfl, rfl, hc⟩ | ⟨rfl, rfl⟩⟩
    · have HB := hid hb
      clear hb
      go_wp2_with fail
      go_ret2
      exact ⟨by rw [HV.out]; rfl, HB.out⟩
    · have HB := hid hb
      clear hb
      go_wp2_with fail
      go_ret2
      exact ⟨by rw [HV.out]; rfl, HB.out⟩

/-! mayStand -/
def BADS : List UInt8 := [34, 60, 62, 92, 94, 96, 123, 124, 125]
theorem byteU_fin : ∀ n : Fin 256, byteU (UInt8.ofNat n.val) = (decide (33 ≤ n.val ∧ n.val ≤ 126) && !BADS.contains (UInt8.ofNat n.val)) := by decide +kernel
theorem byteU_eq (c : UInt8) : byteU c = (decide (33 ≤ c.toNat ∧ c.toNat ≤ 126) && !BADS.contains c) := by
  have := byteU_fin ⟨c.toNat, c.toNat_lt⟩
  simpa only [UInt8.ofNat_toNat] using this
theorem escV_two (c : UInt8) (r : List UInt8) : (escV (c :: r)).isSome = hexTwo r := by
  match r with
  | [] => rfl
  | [_] => rfl
  | a :: b :: t =>
    show (if hexU a && hexU b then some (UInt8.ofNat (hexV a * 16 + hexV b)) else none).isSome = (hexU a && hexU b)
    cases hexU a && hexU b <;> rfl
theorem stands_cons (c : UInt8) (r : List UInt8) : standsU (c :: r) = (byteU c && (c != 37 || hexTwo r) && standsU r) := rfl
theorem drop_at (l : List UInt8) (k : Nat) (h : k < l.length) : l.drop k = l.getD k 0 :: l.drop (k + 1) := by
  rw [List.drop_eq_getElem_cons h, List.getD_eq_getElem?_getD, List.getElem?_eq_getElem h]; rfl
set_option maxHeartbeats 2000000 in
theorem mayStand_any (s : ByteArray) (hs : s.size ≤ 1000000) (w : World) : Calls Tryz.prog 64 #[.string s] w fun e w' => e = .returned (.bool (standsU s.data.toList)) ∧ Below w.heap.size w w' := by
  have HIX := hid (fun k h W => str_ix s k h W)
  have HLN : Hid (s.data.toList.length = s.size) := ba_len s
  have HAM := hid (fun c W => among_any ⟨#[34, 60, 62, 92, 94, 96, 123, 124, 125]⟩ c W)
  have HDR := hid (fun k (h : k < s.data.toList.length) => drop_at s.data.toList k h)
  have HES : Hid (∀ k W, Calls Tryz.prog 73 #[.string (asS (s.data.toList.drop k))] W fun e w' => e = .returned (.tuple #[.int .u8 (escN (escV (s.data.toList.drop k))), .bool (escV (s.data.toList.drop k)).isSome]) ∧ Below W.heap.size W w') := fun k W => escaped_any (asS (s.data.toList.drop k)) (by rw [asS_size, List.length_drop, HLN.out]; omega) W
  have HEX : Hid (∀ k, s.extract k s.size = asS (s.data.toList.drop k)) := fun k => by
    rw [ext_asS, List.take_of_length_le (by rw [List.length_drop, HLN.out]; omega)]
  have HS0 : Hid (standsU s.data.toList = standsU (s.data.toList.drop 0)) := rfl
  generalize standsU s.data.toList = R at HS0 ⊢
  go_enter Tryz.func64, Tryz.ntmps64
  go_wp2_with fail
  go_loopw [9] (fun i wr => ∃ k : Nat, k ≤ s.size ∧ i = .int .i64 (k : Int) ∧ Hid (R = standsU (s.data.toList.drop k)) ∧ Hid (Below w.heap.size w wr)) (fun i _ => s.size - (intOf i).toNat)
  case atStart => exact ⟨0, Nat.zero_le _, rfl, HS0, Below.refl _ _⟩
  case round =>
    obtain ⟨k, hk, rfl, HR, HB⟩ := hrel
    by_cases hlt : k < s.size
    · have hi : (k : Int) < (s.size : Int) := by omega
      have hix := HIX.out k hlt
      have hdr := HDR.out k (by rw [HLN.out]; exact hlt)
      have hes := HES.out k
      have hE := HEX.out k
      rw [hdr] at hes hE
      generalize s.data.toList.getD k 0 = x at hix hdr hes hE
      generalize hrr : s.data.toList.drop (k + 1) = r at hdr hes hE
      have HRR := hid hrr
      have HR2 : Hid (R = (byteU x && (x != 37 || hexTwo r) && standsU r)) := by show _ = _; rw [HR.out, hdr, stands_cons]
      rw [escV_two] at hes
      have HES2 := hid hes
      have HBY := hid (byteU_eq x)
      have hx := x.toNat_lt
      clear hrr hdr hes
      have hkk : (0 : Int) ≤ (k : Int) := by omega
      by_cases h1 : x.toNat < 33
      · have h1' : (x.toNat : Int) < 33 := by omega
        have HQ : Hid (R = false) := by show _ = _; rw [HR2.out, HBY.out, decide_eq_false (by omega)]; rfl
        go_wp2_with fail
        go_ret
        exact ⟨by rw [HQ.out]; rfl, HB.out⟩
      · by_cases h2 : 126 < x.toNat
        · have h1' : ¬ (x.toNat : Int) < 33 := by omega
          have h2' : (126 : Int) < (x.toNat : Int) := by omega
          have HQ : Hid (R = false) := by show _ = _; rw [HR2.out, HBY.out, decide_eq_false (by omega)]; rfl
          go_wp2_with fail
          go_ret
          exact ⟨by rw [HQ.out]; rfl, HB.out⟩
        · have h1' : ¬ (x.toNat : Int) < 33 := by omega
          have h2' : ¬ (126 : Int) < (x.toNat : Int) := by omega
          cases hb : BADS.contains x with
          | true =>
            have HQ : Hid (R = false) := by show _ = _; rw [HR2.out, HBY.out, hb]; simp
            have HA2 : Hid (∀ W, Calls Tryz.prog 76 #[.string ⟨#[34, 60, 62, 92, 94, 96, 123, 124, 125]⟩, .int .u8 x.toNat] W fun e w' => e = .returned (.bool true) ∧ w' = W) := fun W => by
              have := HAM.out x W
              rw [show ([34, 60, 62, 92, 94, 96, 123, 124, 125] : List UInt8).contains x = _ from hb] at this
              exact this
            clear hb
            go_wp2_with fail
            refine (HA2.out _).mono ?_
            rintro e W ⟨rfl, rfl⟩
            go_wp2_with fail
            go_ret
            exact ⟨by rw [HQ.out]; rfl, HB.out⟩
          | false =>
            have HQ : Hid (R = ((x != 37 || hexTwo r) && standsU r)) := by show _ = _; rw [HR2.out, HBY.out, hb, decide_eq_true (by omega)]; simp
            have HA2 : Hid (∀ W, Calls Tryz.prog 76 #[.string ⟨#[34, 60, 62, 92, 94, 96, 123, 124, 125]⟩, .int .u8 x.toNat] W fun e w' => e = .returned (.bool false) ∧ w' = W) := fun W => by
              have := HAM.out x W
              rw [show ([34, 60, 62, 92, 94, 96, 123, 124, 125] : List UInt8).contains x = _ from hb] at this
              exact this
            clear hb
            go_wp2_with fail
            refine (HA2.out _).mono ?_
            rintro e W ⟨rfl, rfl⟩
            go_wp2_with fail
            refine (HES2.out _).mono ?_
            rintro e W2 ⟨rfl, hb2⟩
            have HB2 : Hid (Below w.heap.size w W2) := HB.out.trans (hb2.mono HB.out.size)
            clear hb2
            generalize escN (escV (x :: r)) = z
            by_cases h37 : x = 37
            · subst h37
              cases hx2 : hexTwo r with
              | true =>
                have HQ2 : Hid (R = standsU r) := by show _ = _; rw [HQ.out, hx2]; rfl
                clear hx2
                go_wp2_with fail
                go_roundw
                case rel => exact ⟨k + 1, by omega, by go_num, by show _ = _; rw [HQ2.out, HRR.out], HB2⟩
                case measure => simp [intOf]; omega
              | false =>
                have HQ2 : Hid (R = false) := by show _ = _; rw [HQ.out, hx2]; rfl
                clear hx2
                go_wp2_with fail
                go_ret
                exact ⟨by rw [HQ2.out]; rfl, HB2.out⟩
            · have hne : ¬ (x.toNat : Int) = 37 := fun h => h37 (UInt8.toNat_inj.1 (by show x.toNat = 37; omega))
              have HQ2 : Hid (R = standsU r) := by
                show _ = _
                rw [HQ.out, show (x != 37) = true from by simpa using h37]; rfl
              clear h37
              go_wp2_with fail
              go_roundw
              case rel => exact ⟨k + 1, by omega, by go_num, by show _ = _; rw [HQ2.out, HRR.out], HB2⟩
              case measure => simp [intOf]; omega
    · have hi : ¬ (k : Int) < (s.size : Int) := by omega
      have HQ : Hid (R = true) := by
        show _ = _
        rw [HR.out, List.drop_of_length_le (by rw [HLN.out]; omega)]; rfl
      go_wp2_with fail
      go_ret
      exact ⟨by rw [HQ.out]; rfl, HB.out⟩
end Go.Proofs.YtlblefcmilfjdaaGreatDoor
