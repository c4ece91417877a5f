
/- The reference's digits, its Encode, and pieces together: what hex and Encode of lanternref10 and all of lanternlaw10 do. -/
import Derived.Test.YtlgfepaicgnkpaaDoorChTot
namespace Go.Proofs.YtlgfepaicgnkpaaDoor
set_option linter.unusedVariables false
set_option linter.unusedSimpArgs false
open Go.RowKit Go.BigFrame

theorem slice_hex (r : Nat) (h : r < 16) (W : World) : (Instr.slice 9 (.string ⟨#[48, 49, 50, 51, 52, 53, 54, 55, 56, 57, 97, 98, 99, 100, 101, 102]⟩) (some (.int .i64 (r : Int))) (some (.int .i64 ((r : Int) + 1))) none).run Tryd.prog W = .ok (.string (asS (hexC r))) W := by
  rw [hex_small r h]
  rcases (show r = 0 ∨ r = 1 ∨ r = 2 ∨ r = 3 ∨ r = 4 ∨ r = 5 ∨ r = 6 ∨ r = 7 ∨ r = 8 ∨ r = 9 ∨ r = 10 ∨ r = 11 ∨ r = 12 ∨ r = 13 ∨ r = 14 ∨ r = 15 by omega) with rfl | rfl | rfl | rfl | rfl | rfl | rfl | rfl | rfl | rfl | rfl | rfl | rfl | rfl | rfl | rfl <;> kernel_rfl
theorem hexr_small (n : Nat) (h : n < 16) (w : World) : Calls Tryd.prog 23 #[.int .i64 n] w fun e w' => e = .returned (.string (asS (hexC n))) ∧ w' = w := by
  have hlit := fun W => slice_hex n h W
  have h2 : (n : Int) < 16 := by omega
  generalize asS (hexC n) = D at hlit ⊢
  go_enter Tryd.func23, Tryd.ntmps23
  go_wp2_with fail
  go_ret
  exact ⟨rfl, rfl⟩
set_option maxRecDepth 100000 in
theorem hexr_any : ∀ (f n : Nat), n < 16 ^ (f + 1) → n < 4294967296 → ∀ w : World, Calls Tryd.prog 23 #[.int .i64 n] w fun e w' => e = .returned (.string (asS (hexC n))) ∧ w' = w
  | 0, n, h, _, w => hexr_small n (by simpa using h) w
  | f + 1, n, h, h4, w => by
    by_cases hn : n < 16
    · exact hexr_small n hn w
    · have c1 := hid (hexr_any f (n / 16) (by rw [Nat.div_lt_iff_lt_mul (by decide)]; rw [Nat.pow_succ] at h; exact h) (by omega))
      have c2 := hid (hexr_small (n % 16) (Nat.mod_lt _ (by decide)))
      have HE : Hid (asS (hexC n) = asS (hexC (n / 16)) ++ asS (hexC (n % 16))) := by show _ = _; rw [hex_great n hn h4, asS_app]
      have hs1 : (asS (hexC (n / 16))).size ≤ 8 := by rw [asS_size]; exact (hexC_ok (n / 16) (by omega)).2.2.2
      have hs2 : (asS (hexC (n % 16))).size ≤ 8 := by rw [asS_size]; exact (hexC_ok (n % 16) (by omega)).2.2.2
      have h2 : ¬ (n : Int) < 16 := by omega
      have hq : (n : Int) / 16 = ((n / 16 : Nat) : Int) := by omega
      have hr : (n : Int) % 16 = ((n % 16 : Nat) : Int) := by omega
      generalize asS (hexC n) = D at HE ⊢
      generalize asS (hexC (n / 16)) = D1 at c1 HE hs1
      generalize asS (hexC (n % 16)) = D2 at c2 HE hs2
      generalize n / 16 = a at c1 hq
      generalize n % 16 = b at c2 hr
      have hq2 : (n : Int).tdiv 16 = (a : Int) := by rw [← hq]; exact Int.tdiv_eq_ediv_of_nonneg (by omega)
      have hr2 : (n : Int).tmod 16 = (b : Int) := by rw [← hr]; exact Int.tmod_eq_emod_of_nonneg (by omega)
      have hz : ¬ (9223372036854775807 < D1.size + D2.size) := by omega
      clear hn h
      go_enter Tryd.func23, Tryd.ntmps23
      go_wp2_with fail
      refine (c1.out _).mono ?_
      rintro e W1 ⟨rfl, rfl⟩
      go_wp2_with fail
      refine (c2.out _).mono ?_
      rintro e W2 ⟨rfl, rfl⟩
      go_wp2_with fail
      go_ret
      exact ⟨by rw [HE.out]; rfl, rfl⟩
theorem src_two (w : World) : Src Tryd.prog 1 23 (.slice (some ⟨w.heap.size, 0, none⟩) 2 2) 2 (bvs [13, 10]) (w.alloc (.cells #[.int .u8 13, .int .u8 10] 5)) := src_bytes (l := [13, 10]) (BytesAt.of_row (heap_alloc_new w _)) 2 (fun _ => .inr ⟨_, rfl⟩)
theorem src_five (w : World) : Src Tryd.prog 1 23 (.slice (some ⟨w.heap.size, 0, none⟩) 5 5) 5 (bvs endC) (w.alloc (.cells #[.int .u8 48, .int .u8 13, .int .u8 10, .int .u8 13, .int .u8 10] 5)) := src_bytes (l := [48, 13, 10, 13, 10]) (BytesAt.of_row (heap_alloc_new w _)) 5 (fun _ => .inr ⟨_, rfl⟩)
theorem src_str (w : World) (l : List UInt8) (n : Nat) (h : l.length = n) : Src Tryd.prog 1 9 (.string (asS l)) n (bvs l) w := by
  have := src_text w (asS l)
  rw [asS_size, asS_data, h] at this
  exact this
theorem Own.down {w : World} {b g n cap : Nat} {l : List UInt8} (h : Own w b g n cap l) : Down w b (.slice (some ⟨g, 0, none⟩) n cap) l := .inr ⟨g, n, cap, rfl, h⟩
set_option maxHeartbeats 2000000 in
set_option maxRecDepth 100000 in
theorem refEncode_any (l : List (List UInt8)) (A : Option Addr) (n c : Nat) (hn : l.length = n) (hn2 : n ≤ 281474976710656) (w : World) (hP : PcsAt w A l) (hfit : l.flatten.length ≤ 32768) : Calls Tryd.prog 13 #[.slice A n c] w fun e w' => ∃ d, e = .returned d ∧ Down w' w.heap.size d (encC l) ∧ Below w.heap.size w w' := by
  have HP := hid hP
  have HN := hid hn
  have HOS := hid (ones_step l)
  have HSM := hid (fun k => ones_small l k hfit)
  have HPL : Hid (∀ k, k < n → (l.getD k []).length ≤ 32768) := fun k hk => by
    have h1 := fl_step l k (by rw [hn]; exact hk)
    have h2 := fl_le l (k + 1)
    omega
  have HEN : Hid ((l.take n).flatMap oneC ++ endC = encC l) := by
    show _ = _
    rw [← hn, List.take_length]
    rfl
  rw [hn] at HOS
  generalize encC l = EL at HEN ⊢
  clear hP hn hfit
  have HO0 := hid (Own.zero w w.heap.size (Nat.le_refl _)).down
  have HB0 := hid (alloc_below (Below.refl w.heap.size w) (Nat.le_refl _) (.cells #[] 5))
  go_enter Tryd.func13, Tryd.ntmps13
  go_wp2_with fail
  go_loopw [3, 4] (fun v i wr => ∃ k : Nat, k ≤ n ∧ i = .int .i64 (k : Int) ∧ Hid (Down wr w.heap.size v ((l.take k).flatMap oneC)) ∧ Hid (Below w.heap.size w wr)) (fun v i wr => n - (intOf i).toNat)
  case atStart => exact ⟨0, Nat.zero_le _, rfl, HO0, HB0⟩
  case round =>
    obtain ⟨k, hk, rfl, HD, HB⟩ := hrel
    by_cases hkn : k < n
    · obtain ⟨q, o, rfl, hq, hcc⟩ := HP.out (by rw [HN.out]; omega)
      obtain ⟨B, cB, h1, h2, h3, h4⟩ := hcc k (by rw [HN.out]; omega)
      have HST := hid (HOS.out k hkn)
      have hp := HPL.out k hkn
      have HS1 := hid (HSM.out k)
      have hcell := (HB.out.cell (p := ⟨q, o + k, none⟩) hq).trans h1
      have HCE : Hid (∀ W, Below w.heap.size w W → W.cell? ⟨q, o + k, none⟩ = some (.slice B (l.getD k []).length cB)) := fun W hb => (hb.cell (p := ⟨q, o + k, none⟩) hq).trans h1
      have HYB := hid h2
      generalize hpp : l.getD k [] = p at hp h1 h2 h3 h4 HST hcell HYB HCE
      clear hpp hcc h1 h2
      generalize hO : (l.take k).flatMap oneC = O at HD HST HS1
      clear hO
      by_cases hz : p = []
      · subst hz
        rw [List.length_nil] at hcell
        have HD2 : Hid (∀ v, Down wr w.heap.size v O → Down wr w.heap.size v ((l.take (k + 1)).flatMap oneC)) := fun v h => by
          rw [HST.out, show oneC [] = [] from rfl, List.append_nil]
          exact h
        clear HCE
        go_wp2_with fail
        go_roundw
        case rel => exact ⟨k + 1, by omega, by go_num, HD2.out _ HD.out, HB⟩
        case measure => simp [intOf]; omega
      · have hpos : 0 < p.length := List.length_pos_iff.2 hz
        have hok := hexC_ok p.length (by omega)
        have HON : Hid ((l.take (k + 1)).flatMap oneC = O ++ hexC p.length ++ [13, 10] ++ p ++ [13, 10]) := by
          show _ = _
          rw [HST.out]
          unfold oneC
          rw [if_neg hz]
          simp
        have HSB : Hid (∀ W, Below w.heap.size w W → Src Tryd.prog 1 23 (.slice B p.length cB) p.length (bvs p) W) := fun W hb => src_bytes (HYB.out.below hb (Nat.le_refl _)) cB (fun _ => opt_any B)
        have HHX := hid (fun W => hexr_any 3 p.length (by omega) (by omega) W)
        have hx1 := hok.2.2.1
        have hx2 := hok.2.2.2
        have HSX := hid (fun W => src_str W (hexC p.length) _ rfl)
        generalize hexC p.length = X at HON HHX HSX hx1 hx2
        have HL0 : Hid (O.length + X.length ≤ 1000000000) := by show _ ≤ _; have h5 := HS1.out; omega
        have HL1 : Hid ((O ++ X).length + 2 ≤ 1000000000) := by show _ ≤ _; have h5 := HS1.out; simp only [List.length_append]; omega
        have HL2 : Hid ((O ++ X ++ [13, 10]).length + p.length ≤ 1000000000) := by show _ ≤ _; have h5 := HS1.out; simp only [List.length_append, List.length_cons, List.length_nil]; omega
        have HL3 : Hid ((O ++ X ++ [13, 10] ++ p).length + 2 ≤ 1000000000) := by show _ ≤ _; have h5 := HS1.out; simp only [List.length_append, List.length_cons, List.length_nil]; omega
        clear hok
        generalize hpl : p.length = m at hp hcell hpos HSB HL2 HHX HCE
        generalize hxl : X.length = xl at HSX HL0 hx1
        generalize asS X = SX at HHX HSX
        have h0 : ((m : Int) == 0) = false := by rw [beq_eq_false_iff_ne]; omega
        clear hz hpl hxl hx2
        go_wp2_with fail
        refine (HHX.out _).mono ?_
        rintro e W1 ⟨rfl, hW1⟩
        subst hW1
        go_wp2_with (first
          | (refine wpList_down rfl _ _ 9 rfl w.heap.size xl _ _ O X rfl rfl HD.out (HSX.out _) hx1 HL0.out HB.out.size ?_)
          | fail)
        intro d2 W2 hd2 hb2
        have HD2 := hid hd2
        have HB2 := hid (HB.out.trans hb2)
        clear hd2 hb2 hcell
        generalize O ++ X = O1 at HON HL1 HL2 HL3 HD2
        have HD2a := hid (HD2.out.below (alloc_below (Below.refl _ W2) (Nat.le_refl _) (.cells #[.int .u8 13, .int .u8 10] 5)))
        have HB2a := hid (alloc_below HB2.out HB2.out.size (.cells #[.int .u8 13, .int .u8 10] 5))
        have HS2a := hid (src_two W2)
        go_wp2_with (first
          | (refine wpList_down rfl _ _ 23 rfl w.heap.size 2 _ _ O1 [13, 10] rfl rfl HD2a.out HS2a.out (by omega) HL1.out HB2a.out.size ?_)
          | fail)
        intro d3 W3 hd3 hb3
        have HD3 := hid hd3
        have HB3 := hid (HB2a.out.trans hb3)
        clear hd3 hb3 HD2a HB2a HS2a
        have hcell := HCE.out W3 HB3.out
        go_wp2_with (first
          | (refine wpList_down rfl _ _ 23 rfl w.heap.size m _ _ (O1 ++ [13, 10]) p rfl rfl HD3.out (HSB.out _ HB3.out) hpos HL2.out HB3.out.size ?_)
          | fail)
        intro d4 W4 hd4 hb4
        have HD4 : Hid (Down W4 w.heap.size d4 (O1 ++ [13, 10] ++ p)) := by show Down _ _ _ _; rw [List.append_assoc]; exact hd4
        have HB4 := hid (HB3.out.trans hb4)
        clear hd4 hb4 hcell
        generalize hO2 : O1 ++ [13, 10] ++ p = O2 at HON HL3 HD4
        clear hO2
        have HD4a := hid (HD4.out.below (alloc_below (Below.refl _ W4) (Nat.le_refl _) (.cells #[.int .u8 13, .int .u8 10] 5)))
        have HB4a := hid (alloc_below HB4.out HB4.out.size (.cells #[.int .u8 13, .int .u8 10] 5))
        have HS4a := hid (src_two W4)
        go_wp2_with (first
          | (refine wpList_down rfl _ _ 23 rfl w.heap.size 2 _ _ O2 [13, 10] rfl rfl HD4a.out HS4a.out (by omega) HL3.out HB4a.out.size ?_)
          | fail)
        intro d5 W5 hd5 hb5
        have HD5 : Hid (Down W5 w.heap.size d5 ((l.take (k + 1)).flatMap oneC)) := by show Down _ _ _ _; rw [HON.out]; exact hd5
        have HB5 := hid (HB4a.out.trans hb5)
        clear hd5 hb5
        go_wp2_with fail
        go_roundw
        case rel => exact ⟨k + 1, by omega, by go_num, HD5, HB5⟩
        case measure => simp [intOf]; omega
    · obtain rfl : k = n := by omega
      have HS1 := hid (HSM.out k)
      generalize hO : (l.take k).flatMap oneC = O at HD HS1 HEN
      clear hO
      have HL1 : Hid (O.length + 5 ≤ 1000000000) := by show _ ≤ _; have h5 := HS1.out; omega
      have HD2b := hid (HD.out.below (alloc_below (Below.refl _ wr) (Nat.le_refl _) (.cells #[.int .u8 48, .int .u8 13, .int .u8 10, .int .u8 13, .int .u8 10] 5)))
      have HB2a := hid (alloc_below HB.out HB.out.size (.cells #[.int .u8 48, .int .u8 13, .int .u8 10, .int .u8 13, .int .u8 10] 5))
      have HS2a := hid (src_five wr)
      go_wp2_with (first
        | (refine wpList_down rfl _ _ 23 rfl w.heap.size 5 _ _ O endC rfl rfl HD2b.out HS2a.out (by omega) HL1.out HB2a.out.size ?_)
        | fail)
      intro d3 W3 hd3 hb3
      have HD3 : Hid (Down W3 w.heap.size d3 EL) := by show Down _ _ _ _; rw [← HEN.out]; exact hd3
      have HB3 := hid (HB2a.out.trans hb3)
      clear hd3 hb3
      go_wp2_with fail
      go_ret
      exact ⟨_, rfl, HD3.out, HB3.out⟩
set_option maxHeartbeats 2000000 in
set_option maxRecDepth 100000 in
theorem all10_any (l : List (List UInt8)) (A : Option Addr) (n c : Nat) (hn : l.length = n) (hn2 : n ≤ 281474976710656) (w : World) (hP : PcsAt w A l) (hfit : l.flatten.length ≤ 32768) : Calls Tryd.prog 14 #[.slice A n c] w fun e w' => ∃ d, e = .returned d ∧ Down w' w.heap.size d l.flatten ∧ Below w.heap.size w w' := by
  have HP := hid hP
  have HN := hid hn
  have HST0 : Hid (∀ k, k < n → (l.take (k + 1)).flatten = (l.take k).flatten ++ l.getD k []) := fun k hk => by
    rw [take_fl l k (by rw [hn]; exact hk)]; simp
  have HSM : Hid (∀ k, (l.take k).flatten.length ≤ 32768) := fun k => Nat.le_trans (fl_le l k) hfit
  have HPL : Hid (∀ k, k < n → (l.getD k []).length ≤ 32768) := fun k hk => by
    have h1 := fl_step l k (by rw [hn]; exact hk)
    have h2 := fl_le l (k + 1)
    omega
  have HEN : Hid ((l.take n).flatten = l.flatten) := by show _ = _; rw [← hn, List.take_length]
  generalize l.flatten = EL at HEN ⊢
  clear hP hn hfit
  have HO0 := hid (Own.zero w w.heap.size (Nat.le_refl _))
  have HB0 := hid (alloc_below (Below.refl w.heap.size w) (Nat.le_refl _) (.cells #[] 5))
  go_enter Tryd.func14, Tryd.ntmps14
  go_wp2_with fail
  go_loopw [3, 4] (fun v i wr => ∃ (k g s cp : Nat), k ≤ n ∧ i = .int .i64 (k : Int) ∧ v = .slice (some ⟨g, 0, none⟩) s cp ∧ s ≤ 32768 ∧ Hid (Own wr w.heap.size g s cp (l.take k).flatten) ∧ Hid (Below w.heap.size w wr)) (fun v i wr => n - (intOf i).toNat)
  case atStart => exact ⟨0, w.heap.size, 0, 0, Nat.zero_le _, rfl, rfl, by omega, HO0, HB0⟩
  case round =>
    obtain ⟨k, g, s, cp, hk, rfl, rfl, hs, HD, HB⟩ := hrel
    by_cases hkn : k < n
    · obtain ⟨q, o, rfl, hq, hcc⟩ := HP.out (by rw [HN.out]; omega)
      obtain ⟨B, cB, h1, h2, h3, h4⟩ := hcc k (by rw [HN.out]; omega)
      have HST := hid (HST0.out k hkn)
      have hp := HPL.out k hkn
      have HS2 := hid (HSM.out (k + 1))
      have hcell := (HB.out.cell (p := ⟨q, o + k, none⟩) hq).trans h1
      have HSB : Hid (Src Tryd.prog 1 23 (.slice B (l.getD k []).length cB) (l.getD k []).length (bvs (l.getD k [])) wr) := src_bytes (h2.below HB.out (Nat.le_refl _)) cB (fun _ => opt_any B)
      generalize hpp : l.getD k [] = p at hp h1 h2 h3 h4 HST hcell HSB
      clear hpp hcc h1 h2
      generalize hO : (l.take k).flatten = O at HD HST
      clear hO
      generalize hpl : p.length = m at hp hcell HSB h3 h4
      clear hpl
      go_wp2_with (first
        | (refine wpList_own rfl _ _ 23 rfl w.heap.size g s cp m O p _ rfl rfl HD.out HSB.out (by omega) HB.out.size ?_)
        | fail)
      intro g2 cp2 W2 hown2 hgr2 _
      have HB2 := hid (HD.out.grown HB.out HB.out.size hgr2)
      have HO2 : Hid (Own W2 w.heap.size g2 (s + m) cp2 (l.take (k + 1)).flatten) := by show Own _ _ _ _ _ _; rw [HST.out]; exact hown2
      have hs2 : s + m ≤ 32768 := by have h5 := hown2.len; have h6 := HS2.out; rw [HST.out] at h6; omega
      clear hown2 hgr2
      go_wp2_with fail
      go_roundw
      case rel => exact ⟨k + 1, g2, s + m, cp2, by omega, by go_num, rfl, hs2, HO2, HB2⟩
      case measure => simp [intOf]; omega
    · obtain rfl : k = n := by omega
      have HD2 : Hid (Down wr w.heap.size (.slice (some ⟨g, 0, none⟩) s cp) EL) := by show Down _ _ _ _; rw [← HEN.out]; exact HD.out.down
      go_wp2_with fail
      go_ret
      exact ⟨_, rfl, HD2.out, HB.out⟩
end Go.Proofs.YtlgfepaicgnkpaaDoor
