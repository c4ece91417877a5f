
/- What url.Escape does. -/
import Derived.Test.YtlblefcmilfjdaaGreatDoorUrBld
namespace Go.Proofs.YtlblefcmilfjdaaGreatDoor
set_option linter.unusedVariables false
set_option linter.unusedSimpArgs false
open Go.RowKit Go.BigFrame

theorem slice_run2 (S : ByteArray) (a b : Nat) (i j : Int) (hi : i = (a : Int)) (hj : j = (b : Int)) (h1 : a ≤ b) (h2 : b ≤ S.size) (x : ByteArray) (hx : S.extract a b = x) (W : World) : (Instr.slice 9 (.string S) (some (.int .i64 i)) (some (.int .i64 j)) none).run Tryz.prog W = .ok (.string x) W := by
  subst hi; subst hj; subst hx
  rw [run_slice_string W 9 S .i64 .i64 a b Tryz.underlying9 (by omega) (by omega) (by omega)]
  simp
/-! The upper digits. -/
def UP (l : List UInt8) : List UInt8 := Lib.toUpperA (hexB l)
theorem up_fin : ∀ n : Fin 16, Lib.upperB (hd n.val) = hexD n.val ∧ (hd n.val).toNat < 128 := by decide
theorem UP_nil : UP [] = [] := rfl
theorem UP_cons (c : UInt8) (r : List UInt8) : UP (c :: r) = hexD (c.toNat / 16) :: hexD (c.toNat % 16) :: UP r := by
  unfold UP hexB
  rw [List.flatMap_cons]
  unfold Lib.toUpperA
  rw [List.map_append]
  have h1 := (up_fin ⟨c.toNat / 16, by have := c.toNat_lt; omega⟩).1
  have h2 := (up_fin ⟨c.toNat % 16, by omega⟩).1
  simp only at h1 h2
  show Lib.upperB (hd (c.toNat / 16)) :: Lib.upperB (hd (c.toNat % 16)) :: _ = _
  rw [h1, h2]
  rfl
theorem UP_len : ∀ l : List UInt8, (UP l).length = 2 * l.length
  | [] => rfl
  | c :: r => by rw [UP_cons, List.length_cons, List.length_cons, UP_len r, List.length_cons]; omega
theorem UP_at : ∀ (l : List UInt8) (k : Nat), k < l.length → ((UP l).drop (2 * k)).take 2 = [hexD ((l.getD k 0).toNat / 16), hexD ((l.getD k 0).toNat % 16)]
  | [], k, h => by simp at h
  | c :: r, 0, _ => by rw [UP_cons]; rfl
  | c :: r, k + 1, h => by
    rw [UP_cons, show 2 * (k + 1) = 2 * k + 1 + 1 from by omega, List.drop_succ_cons, List.drop_succ_cons, UP_at r k (by simpa using h)]
    rfl
theorem hexB_asc (l : List UInt8) : Asc (hexB l) := fun c hc => by
  unfold hexB at hc
  obtain ⟨d, _, hd2⟩ := List.mem_flatMap.1 hc
  unfold hex2 at hd2
  simp only [List.mem_cons, List.not_mem_nil, or_false] at hd2
  rcases hd2 with rfl | rfl
  · exact (up_fin ⟨d.toNat / 16, by have := d.toNat_lt; omega⟩).2
  · exact (up_fin ⟨d.toNat % 16, by omega⟩).2
theorem upper_any (l : List UInt8) (hl : l.length ≤ 100000) (w : World) : Calls Tryz.prog 74 #[.string (asS (hexB l))] w fun e w' => e = .returned (.string (asS (UP l))) ∧ Below w.heap.size w w' :=
  Tryz.strings_ToUpper_ascii (asS (hexB l)) w (by rw [asS_size, hexB_len]; omega) (hexB_asc l).at
def PLN : List UInt8 := LET ++ DGT ++ [45, 46, 95, 126]
theorem pln_fin : ∀ n : Fin 256, PLN.contains (UInt8.ofNat n.val) = plainU (UInt8.ofNat n.val) := by decide +kernel
theorem pln_eq (c : UInt8) : PLN.contains c = plainU c := by
  have := pln_fin ⟨c.toNat, c.toNat_lt⟩
  simpa only [UInt8.ofNat_toNat] using this
theorem plain_any (c : UInt8) (w : World) : Calls Tryz.prog 76 #[.string ⟨PLN.toArray⟩, .int .u8 c.toNat] w fun e w' => e = .returned (.bool (plainU c)) ∧ w' = w := by
  have := among_any ⟨PLN.toArray⟩ c w
  rw [show (⟨PLN.toArray⟩ : ByteArray).data.toList.contains c = plainU c from pln_eq c] at this
  exact this
def escB (c : UInt8) : List UInt8 := if plainU c then [c] else [37, hexD (c.toNat / 16), hexD (c.toNat % 16)]
theorem esc_snoc (l : List UInt8) (k : Nat) (h : k < l.length) : escU (l.take (k + 1)) = escU (l.take k) ++ escB (l.getD k 0) := by
  rw [take_snoc l k h]
  unfold escU escB
  rw [List.flatMap_append]
  simp
theorem escB_len (c : UInt8) : (escB c).length ≤ 3 := by
  unfold escB
  split <;> simp
theorem esc_len : ∀ l : List UInt8, (escU l).length ≤ 3 * l.length
  | [] => by simp [escU]
  | c :: r => by
    have e : escU (c :: r) = escB c ++ escU r := by simp [escU, escB]
    have h1 := escB_len c
    have h2 := esc_len r
    rw [e, List.length_append, List.length_cons]; omega
set_option maxHeartbeats 4000000 in
set_option maxRecDepth 100000 in
theorem escape_any (l : List UInt8) (hl : l.length ≤ 100000) (w : World) : Calls Tryz.prog 47 #[.string (asS l)] w fun e w' => e = .returned (.string (asS (escU l))) ∧ Below w.heap.size w w' := by
  obtain ⟨cap, V, hcv, hown, hbv⟩ := conv_own w (asS l)
  have hvl := hown.lt
  have HBY := hown.bytes
  rw [asS_size] at hcv
  have HHX := hid (hex_any l (some ⟨w.heap.size, 0, none⟩) cap w.heap.size 0 V (fun _ => rfl) hvl (fun j hj => by
    obtain ⟨q, o, h1, h2, h3⟩ := HBY (by show 0 < l.length; omega)
    injection h1 with h1
    injection h1 with h4 h5
    subst h4; subst h5
    exact h3 j hj) (by omega))
  have HBV := hid hbv
  have HUP := hid (fun W => upper_any l hl W)
  have HSZ := hid (asS_size l)
  have HIX : Hid (∀ k, k < l.length → ∀ W, (Instr.index 9 (.string (asS l)) (.int .i64 (k : Int))).run Tryz.prog W = .ok (.int .u8 (l.getD k 0).toNat) W) := fun k hk W => str_ix (asS l) k (by rw [asS_size]; exact hk) W
  have HSN := hid (esc_snoc l)
  have HXU : Hid (∀ k, k < l.length → (asS (UP l)).extract (2 * k) (2 * k + 2) = asS [hexD ((l.getD k 0).toNat / 16), hexD ((l.getD k 0).toNat % 16)]) := fun k hk => by
    rw [ext_asS, asS_data, show 2 * k + 2 - 2 * k = 2 from by omega, UP_at l k hk]
  have HUS : Hid ((asS (UP l)).size = 2 * l.length) := by show _ = _; rw [asS_size, UP_len]
  have HEL : Hid (∀ k, (escU (l.take k)).length ≤ 300000) := fun k => by have := esc_len (l.take k); rw [List.length_take] at this; omega
  have HEN : Hid (∀ k, l.length ≤ k → escU (l.take k) = escU l) := fun k hk => by rw [List.take_of_length_le hk]
  have HPL := hid plain_any
  have HWB := hid writeByte_any
  have HWS := hid writeStr_any
  have HST := hid bstr_any
  have hcv' := hcv
  clear hown hbv HBY hcv
  generalize asS l = S at hcv' HSZ HIX ⊢
  generalize asS (UP l) = SU at HUP HXU HUS
  generalize hHB : asS (hexB l) = SH at HUP
  have HSH : Hid ((⟨(hexB l).toArray⟩ : ByteArray) = SH) := hHB
  rw [HSH.out] at HHX
  clear hHB
  generalize escU l = R at HEN ⊢
  have hS : S.size = l.length := HSZ.out
  have hS2 : S.size ≤ 100000 := by omega
  have HS := hid hS
  clear hS
  go_enter Tryz.func47, Tryz.ntmps47
  go_wp2_with fail
  refine HHX.out.mono ?_
  rintro e W1 ⟨rfl, hb1⟩
  have HB1 : Hid (Below w.heap.size w W1) := HBV.out.trans (hb1.mono HBV.out.size)
  clear hb1 hcv'
  go_wp2_with fail
  refine (HUP.out _).mono ?_
  rintro e W2 ⟨rfl, hb2⟩
  have HB2 : Hid (Below w.heap.size w W2) := HB1.out.trans (hb2.mono HB1.out.size)
  clear hb2
  go_wp2_with (first
    | (refine wpList_built rfl 62 _ rfl #[.pointer none, .slice none 0 0] built_bld ?_)
    | (refine store_bld rfl _ _ rfl W2.heap.size rfl rfl _ (heap_alloc_new W2 _) rfl ?_)
    | fail)
  intro W3 hO3 hW3
  have HD0 : Hid (Bd W2.heap.size W2.heap.size (escU (l.take 0)) W3) := Bd.row (Nat.le_refl _) hW3
  have HB3 : Hid (Below W2.heap.size W2 W3) := (alloc_below (Below.refl _ W2) (Nat.le_refl _) _).trans (hO3.below (Nat.le_refl _))
  clear hO3 hW3
  go_wp2_with fail
  go_loopw [13] (fun i wr => ∃ k : Nat, k ≤ S.size ∧ i = .int .i64 (k : Int) ∧ Hid (Bd W2.heap.size W2.heap.size (escU (l.take k)) wr) ∧ Hid (Below W2.heap.size W2 wr)) (fun i _ => S.size - (intOf i).toNat)
  case atStart => exact ⟨0, Nat.zero_le _, rfl, HD0, HB3⟩
  case round =>
    obtain ⟨k, hk, rfl, HD, HB⟩ := hrel
    by_cases hlt : k < S.size
    · have hi : (k : Int) < (S.size : Int) := by omega
      have hkl : k < l.length := by have := HS.out; omega
      have hix := HIX.out k hkl
      have hsn := HSN.out k hkl
      have hxu := HXU.out k hkl
      have hel := HEL.out k
      generalize l.getD k 0 = c at hix hsn hxu
      generalize escU (l.take k) = o at HD hsn hel
      have HPc := hid (HPL.out c)
      have hEB : escB c = if plainU c then [c] else [37, hexD (c.toNat / 16), hexD (c.toNat % 16)] := rfl
      rw [hEB] at hsn
      have HSNk := hid hsn
      clear hsn hEB
      cases hp : plainU c with
      | true =>
        rw [hp] at HPc HSNk
        clear hp hxu
        go_wp2_with fail
        refine (HPc.out _).mono ?_
        rintro e W ⟨rfl, rfl⟩
        go_wp2_with fail
        refine (HWB.out _ _ o c _ HD.out (by omega) HB.out.size).mono ?_
        rintro e V1 ⟨rfl, hd1, hb1⟩
        have HB4 := hid (HB.out.trans hb1)
        have HD4 := hid hd1
        clear hd1 hb1
        go_wp2_with fail
        go_roundw
        case rel => exact ⟨k + 1, by omega, by go_num, by rw [HSNk.out]; exact HD4, HB4⟩
        case measure => simp [intOf]; omega
      | false =>
        rw [hp] at HPc HSNk
        have hw1 : wrap64 (2 * (k : Int)) = 2 * (k : Int) := by unfold wrap64; omega
        have hw2 : wrap64 (2 * (k : Int) + 2) = 2 * (k : Int) + 2 := by unfold wrap64; omega
        have hsl := slice_run2 SU (2 * k) (2 * k + 2) (2 * (k : Int)) (2 * (k : Int) + 2) (by omega) (by omega) (by omega) (by rw [HUS.out]; omega) _ hxu
        generalize hexD (c.toNat / 16) = x at HSNk hsl
        generalize hexD (c.toNat % 16) = y at HSNk hsl
        clear hp hxu
        go_wp2_with fail
        refine (HPc.out _).mono ?_
        rintro e W ⟨rfl, rfl⟩
        go_wp2_with fail
        refine (HWB.out _ _ o 37 _ HD.out (by omega) HB.out.size).mono ?_
        rintro e V1 ⟨rfl, hd1, hb1⟩
        have HB4 := hid (HB.out.trans hb1)
        have HD4 := hid hd1
        clear hd1 hb1
        go_wp2_with fail
        refine (HWS.out _ _ (o ++ [37]) [x, y] _ HD4.out (by simp; omega) HB4.out.size).mono ?_
        rintro e V2 ⟨rfl, hd2, hb2⟩
        have HB5 := hid (HB4.out.trans hb2)
        have HD5 : Hid (Bd W2.heap.size W2.heap.size (o ++ [37, x, y]) V2) := by
          have : o ++ [37] ++ [x, y] = o ++ [37, x, y] := by simp
          rw [← this]; exact hd2
        clear hd2 hb2
        go_wp2_with fail
        go_roundw
        case rel => exact ⟨k + 1, by omega, by go_num, by rw [HSNk.out]; exact HD5, HB5⟩
        case measure => simp [intOf]; omega
    · have hi : ¬ (k : Int) < (S.size : Int) := by omega
      have hEN := HEN.out k (by have := HS.out; omega)
      rw [hEN] at HD
      clear hEN
      go_wp2_with fail
      refine (HST.out _ _ R _ HD.out HB.out.size).mono ?_
      rintro e V1 ⟨rfl, hb1⟩
      have HB4 := hid (HB.out.trans hb1)
      clear hb1
      go_wp2_with fail
      go_ret
      exact ⟨rfl, HB2.out.trans (HB4.out.mono HB2.out.size)⟩
end Go.Proofs.YtlblefcmilfjdaaGreatDoor
