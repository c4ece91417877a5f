
/- Pieces put together as a body in chunks: what fit and Encode of package chunk do. -/
import Derived.Test.YtlgfepaicgnkpaaDoorChSize
namespace Go.Proofs.YtlgfepaicgnkpaaDoor
set_option linter.unusedVariables false
set_option linter.unusedSimpArgs false
open Go.RowKit Go.BigFrame

/-- The pieces l lie there. -/
def PcsAt (w : World) (A : Option Addr) (l : List (List UInt8)) : Prop :=
  0 < l.length → ∃ q o, A = some ⟨q, o, none⟩ ∧ q < w.heap.size ∧ ∀ i, i < l.length → ∃ B c, w.cell? ⟨q, o + i, none⟩ = some (.slice B (l.getD i []).length c) ∧ BytesAt w B (l.getD i []) ∧ (l.getD i []).length ≤ c ∧ (l.getD i []).length ≤ 281474976710656
theorem PcsAt.below {w w' : World} {A : Option Addr} {l : List (List UInt8)} (h : PcsAt w A l) {B : Nat} (hb : Below B w w') (hB : w.heap.size ≤ B) : PcsAt w' A l := fun h0 => by
  obtain ⟨q, o, e, hq, hc⟩ := h h0
  refine ⟨q, o, e, Nat.lt_of_lt_of_le hq hb.size, fun i hi => ?_⟩
  obtain ⟨C, c, h1, h2, h3, h4⟩ := hc i hi
  exact ⟨C, c, by rw [hb.cell (p := ⟨q, o + i, none⟩) (by simp; omega)]; exact h1, h2.below hb hB, h3, h4⟩
theorem take_fl (l : List (List UInt8)) (k : Nat) (h : k < l.length) : l.take (k + 1) = l.take k ++ [l.getD k []] := by
  rw [List.take_succ_eq_append_getElem h, List.getD_eq_getElem?_getD, List.getElem?_eq_getElem h]; rfl
theorem fl_step (l : List (List UInt8)) (k : Nat) (h : k < l.length) : (l.take (k + 1)).flatten.length = (l.take k).flatten.length + (l.getD k []).length := by
  rw [take_fl l k h]; simp
theorem fl_le (l : List (List UInt8)) (k : Nat) : (l.take k).flatten.length ≤ l.flatten.length := by
  conv => rhs; rw [← List.take_append_drop k l]
  rw [List.flatten_append, List.length_append]
  omega
theorem fl_all (l : List (List UInt8)) : (l.take l.length).flatten.length = l.flatten.length := by rw [List.take_length]
set_option maxHeartbeats 1000000 in
set_option maxRecDepth 100000 in
theorem fit_any (l : List (List UInt8)) (A : Option Addr) (n c : Nat) (hn : l.length = n) (hn2 : n ≤ 281474976710656) (w : World) (hP : PcsAt w A l) : Calls Tryd.prog 18 #[.slice A n c] w fun e w' => e = .returned (.bool (decide (l.flatten.length ≤ 32768))) ∧ w' = w := by
  have HP := hid hP
  have HN := hid hn
  have HFS := hid (fl_step l)
  have HFL := hid (fl_le l)
  have HFA := hid (fl_all l)
  rw [hn] at HFS HFA
  obtain ⟨R, hR⟩ : ∃ R, R = decide (l.flatten.length ≤ 32768) := ⟨_, rfl⟩
  rw [← hR]
  have HR := hid hR
  clear hP hn hR
  go_enter Tryd.func18, Tryd.ntmps18
  go_wp2_with fail
  go_loop [3, 8] (fun v i => ∃ k : Nat, k ≤ n ∧ i = .int .i64 (k : Int) ∧ ∃ m : Nat, m ≤ 32768 ∧ v = .int .i64 (32768 - (m : Int)) ∧ Hid (m = (l.take k).flatten.length)) (fun v i => n - (intOf i).toNat)
  case atStart => exact ⟨0, Nat.zero_le _, rfl, 0, by omega, rfl, rfl⟩
  case round =>
    obtain ⟨k, hk, rfl, m, hm, rfl, HM⟩ := hrel
    by_cases hkn : k < n
    · obtain ⟨q, o, rfl, hq, hcc⟩ := HP.out (by rw [HN.out]; omega)
      obtain ⟨B, cB, h1, _, h3, h4⟩ := hcc k (by rw [HN.out]; omega)
      have HST := hid (HFS.out k hkn)
      generalize (l.getD k []).length = p at h1 h3 h4 HST
      clear hcc
      by_cases hp : p ≤ 32768 - m
      · have hp1 : ¬ (32768 : Int) - (m : Int) < (p : Int) := by omega
        go_wp2_with fail
        go_round
        case rel => exact ⟨k + 1, by omega, by go_num, m + p, by omega, by go_num, by show _ = _; rw [HST.out, ← HM.out]⟩
        case measure => simp [intOf]; omega
      · have hp1 : (32768 : Int) - (m : Int) < (p : Int) := by omega
        have HRE : Hid (R = false) := by
          show _ = _
          rw [HR.out]
          refine decide_eq_false ?_
          have h5 := HFL.out (k + 1)
          rw [HST.out, ← HM.out] at h5
          omega
        go_wp2_with fail
        go_ret
        exact ⟨by rw [HRE.out]; rfl, rfl⟩
    · obtain rfl : k = n := by omega
      have HRE : Hid (R = true) := by
        show _ = _
        rw [HR.out]
        refine decide_eq_true ?_
        rw [← HFA.out, ← HM.out]
        exact hm
      go_wp2_with fail
      go_ret
      exact ⟨by rw [HRE.out]; rfl, rfl⟩
theorem Down.own {w : World} {b : Nat} {d : Value} {o : List UInt8} (h : Down w b d o) (h0 : 0 < o.length) : ∃ g cap, d = .slice (some ⟨g, 0, none⟩) o.length cap ∧ Own w b g o.length cap o := by
  rcases h with ⟨rfl, rfl⟩ | ⟨g, n, cap, rfl, h2⟩
  · simp at h0
  · exact ⟨g, cap, by rw [h2.len], by rw [h2.len]; exact h2⟩
theorem encode_no (l : List (List UInt8)) (A : Option Addr) (n c : Nat) (hn : l.length = n) (hn2 : n ≤ 281474976710656) (w : World) (hP : PcsAt w A l) (hbig : 32768 < l.flatten.length) : Calls Tryd.prog 8 #[.slice A n c] w fun e w' => e = .returned (.tuple #[.slice none 0 0, .int .i64 3]) ∧ w' = w := by
  have HF := hid (fit_any l A n c hn hn2 w hP)
  rw [decide_eq_false (by omega)] at HF
  clear hP hn hbig
  go_enter Tryd.func8, Tryd.ntmps8
  go_wp2_with fail
  refine HF.out.mono ?_
  rintro e W1 ⟨rfl, rfl⟩
  go_wp2_with fail
  go_ret2
  exact ⟨rfl, rfl⟩
theorem ones_step (l : List (List UInt8)) (k : Nat) (h : k < l.length) : (l.take (k + 1)).flatMap oneC = (l.take k).flatMap oneC ++ oneC (l.getD k []) := by
  rw [take_fl l k h]; simp
theorem ones_small (l : List (List UInt8)) (k : Nat) (h : l.flatten.length ≤ 32768) : ((l.take k).flatMap oneC).length ≤ 500000 := by
  have h1 := fl_le l k
  have h2 := ones_len (l.take k) (by omega)
  omega
theorem hex_zero : hexC 0 = [48] := by rw [hex_small 0 (by decide)]; rfl
set_option maxHeartbeats 2000000 in
set_option maxRecDepth 100000 in
theorem encode_ok (l : List (List UInt8)) (A : Option Addr) (n c : Nat) (hn : l.length = n) (hn2 : n ≤ 281474976710656) (w : World) (hT : TabC w) (hP : PcsAt w A l) (hfit : l.flatten.length ≤ 32768) : Calls Tryd.prog 8 #[.slice A n c] w fun e w' => ∃ g cap, e = .returned (.tuple #[.slice (some ⟨g, 0, none⟩) (encC l).length cap, .int .i64 0]) ∧ Own w' w.heap.size g (encC l).length cap (encC l) ∧ Below w.heap.size w w' := by
  have HF := hid (fit_any l A n c hn hn2 w hP)
  rw [decide_eq_true hfit] at HF
  have HP := hid hP
  have HN := hid hn
  have HT := hid hT
  have HOS := hid (ones_step l)
  have HSM := hid (fun k => ones_small l k hfit)
  have HPL : Hid (∀ k, k < n → (l.getD k []).length ≤ 32768) := fun k hk => by
    have h1 := fl_step l k (by rw [hn]; exact hk)
    have h2 := fl_le l (k + 1)
    omega
  have HEN : Hid ((l.take n).flatMap oneC ++ hexC 0 ++ [13, 10] ++ [13, 10] = encC l) := by
    show _ = _
    rw [← hn, List.take_length, hex_zero]
    unfold encC endC
    simp
  have HEP : Hid (0 < (encC l).length) := by show _ < _; have := enc_pos l; omega
  rw [hn] at HOS
  generalize encC l = EL at HEN HEP ⊢
  clear hP hn hT hfit
  go_enter Tryd.func8, Tryd.ntmps8
  go_wp2_with fail
  refine HF.out.mono ?_
  rintro e W1 ⟨rfl, hW1⟩
  subst hW1
  go_wp2_with fail
  go_loopw [4, 12] (fun v i wr => ∃ k : Nat, k ≤ n ∧ i = .int .i64 (k : Int) ∧ Hid (Down wr W1.heap.size v ((l.take k).flatMap oneC)) ∧ Hid (Below W1.heap.size W1 wr)) (fun v i wr => n - (intOf i).toNat)
  case atStart => exact ⟨0, Nat.zero_le _, rfl, Down.nil _ _, Below.refl _ _⟩
  case round =>
    obtain ⟨k, hk, rfl, HD, HB⟩ := hrel
    by_cases hkn : k < n
    · obtain ⟨q, o, rfl, hq, hcc⟩ := HP.out (by rw [HN.out]; omega)
      obtain ⟨B, cB, h1, h2, h3, h4⟩ := hcc k (by rw [HN.out]; omega)
      have HST := hid (HOS.out k hkn)
      have hp := HPL.out k hkn
      have HS1 := hid (HSM.out k)
      have HS2 := hid (HSM.out (k + 1))
      have hcell := (HB.out.cell (p := ⟨q, o + k, none⟩) hq).trans h1
      have HYB := hid h2
      generalize hpp : l.getD k [] = p at hp h1 h2 h3 h4 HST hcell HYB
      clear hpp hcc h1 h2
      generalize hO : (l.take k).flatMap oneC = O at HD HST HS1
      clear hO
      by_cases hz : p = []
      · subst hz
        have h0 : ¬ (0 : Int) < ((0 : Nat) : Int) := by omega
        rw [List.length_nil] at hcell
        have HD2 : Hid (∀ v, Down wr W1.heap.size v O → Down wr W1.heap.size v ((l.take (k + 1)).flatMap oneC)) := fun v h => by
          rw [HST.out, show oneC [] = [] from rfl, List.append_nil]
          exact h
        go_wp2_with fail
        go_roundw
        case rel => exact ⟨k + 1, by omega, by go_num, HD2.out _ HD.out, HB⟩
        case measure => simp [intOf]; omega
      · have hpos : 0 < p.length := List.length_pos_iff.2 hz
        have HON : Hid ((l.take (k + 1)).flatMap oneC = O ++ hexC p.length ++ [13, 10] ++ p ++ [13, 10]) := by
          show _ = _
          rw [HST.out]
          unfold oneC
          rw [if_neg hz]
          simp
        have HHX : Hid ((hexC p.length).length ≤ 8) := (hexC_ok p.length (by omega)).2.2.2
        have HSB : Hid (∀ W, Below W1.heap.size W1 W → Src Tryd.prog 1 23 (.slice B p.length cB) p.length (bvs p) W) := fun W hb => src_bytes (HYB.out.below hb (Nat.le_refl _)) cB (fun _ => opt_any B)
        have HAS : Hid (∀ W d, TabC W → Down W W1.heap.size d O → W1.heap.size ≤ W.heap.size → Calls Tryd.prog 19 #[d, .int .i64 p.length] W fun e w' => ∃ d', e = .returned d' ∧ Down w' W1.heap.size d' (O ++ hexC p.length ++ [13, 10]) ∧ Below W1.heap.size W w') := fun W d h1 h2 h3 => appSize_any p.length (by omega) W1.heap.size d O W h1.four h2 h3 (by have := HS1.out; omega)
        have HL1 : Hid ((O ++ hexC p.length ++ [13, 10]).length + p.length ≤ 1000000000) := by
          show _ ≤ _
          have h5 := HS1.out
          have h6 := HHX.out
          simp only [List.length_append, List.length_cons, List.length_nil]
          omega
        have HL2 : Hid ((O ++ hexC p.length ++ [13, 10] ++ p).length + 2 ≤ 1000000000) := by
          show _ ≤ _
          have h5 := HS1.out
          have h6 := HHX.out
          simp only [List.length_append, List.length_cons, List.length_nil]
          omega
        generalize O ++ hexC p.length ++ [13, 10] = O1 at HON HAS HL1 HL2
        generalize hpl : p.length = m at hp hcell hpos HAS HSB HL1
        clear hz hpl
        have h0 : (0 : Int) < (m : Int) := by omega
        go_wp2_with fail
        refine (HAS.out _ _ (HT.out.below HB.out) HD.out HB.out.size).mono ?_
        rintro e W2 ⟨d2, rfl, hd2, hb2⟩
        have HD2 := hid hd2
        have HB2 := hid (HB.out.trans hb2)
        clear hd2 hb2
        go_wp2_with (first
          | (refine wpList_down rfl _ _ 23 rfl W1.heap.size m _ _ O1 p rfl rfl HD2.out (HSB.out _ HB2.out) hpos HL1.out HB2.out.size ?_)
          | fail)
        intro d3 W3 hd3 hb3
        have HD3 := hid hd3
        have HB3 := hid (HB2.out.trans hb3)
        clear hd3 hb3
        go_wp2_with (first
          | (refine wpList_down rfl _ _ 9 rfl W1.heap.size 2 _ _ (O1 ++ p) [13, 10] rfl rfl HD3.out (src_crlf _) (by omega) HL2.out HB3.out.size ?_)
          | fail)
        intro d4 W4 hd4 hb4
        have HD4 : Hid (Down W4 W1.heap.size d4 ((l.take (k + 1)).flatMap oneC)) := by show Down _ _ _ _; rw [HON.out, List.append_assoc O1 p [13, 10]]; exact hd4
        have HB4 := hid (HB3.out.trans hb4)
        clear hd4 hb4
        go_wp2_with fail
        go_roundw
        case rel => exact ⟨k + 1, by omega, by go_num, HD4, HB4⟩
        case measure => simp [intOf]; omega
    · obtain rfl : k = n := by omega
      have HS1 := hid (HSM.out k)
      generalize hO : (l.take k).flatMap oneC = O at HD HS1 HEN
      clear hO
      have HAS : Hid (∀ W d, TabC W → Down W W1.heap.size d O → W1.heap.size ≤ W.heap.size → Calls Tryd.prog 19 #[d, .int .i64 0] W fun e w' => ∃ d', e = .returned d' ∧ Down w' W1.heap.size d' (O ++ hexC 0 ++ [13, 10]) ∧ Below W1.heap.size W w') := fun W d h1 h2 h3 => appSize_any 0 (by omega) W1.heap.size d O W h1.four h2 h3 (by have := HS1.out; omega)
      have HL2 : Hid ((O ++ hexC 0 ++ [13, 10]).length + 2 ≤ 1000000000) := by
        show _ ≤ _
        have h5 := HS1.out
        rw [hex_zero]
        simp only [List.length_append, List.length_cons, List.length_nil]
        omega
      generalize O ++ hexC 0 ++ [13, 10] = O1 at HEN HAS HL2
      go_wp2_with fail
      refine (HAS.out _ _ (HT.out.below HB.out) HD.out HB.out.size).mono ?_
      rintro e W2 ⟨d2, rfl, hd2, hb2⟩
      have HD2 := hid hd2
      have HB2 := hid (HB.out.trans hb2)
      clear hd2 hb2
      go_wp2_with (first
        | (refine wpList_down rfl _ _ 9 rfl W1.heap.size 2 _ _ O1 [13, 10] rfl rfl HD2.out (src_crlf _) (by omega) HL2.out HB2.out.size ?_)
        | fail)
      intro d4 W4 hd4 hb4
      have HD4 : Hid (Down W4 W1.heap.size d4 EL) := by show Down _ _ _ _; rw [← HEN.out]; exact hd4
      have HB4 := hid (HB2.out.trans hb4)
      clear hd4 hb4
      obtain ⟨g, cap, hd, ho⟩ := HD4.out.own HEP.out
      subst hd
      have HO := hid ho
      clear ho HD4
      go_wp2_with fail
      go_ret2
      exact ⟨g, cap, rfl, HO.out, HB4.out⟩
end Go.Proofs.YtlgfepaicgnkpaaDoor
