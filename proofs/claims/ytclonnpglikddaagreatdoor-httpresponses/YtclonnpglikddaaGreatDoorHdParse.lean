
/- Headers read: what Parse of package header does. -/
import Derived.Test.YtclonnpglikddaaGreatDoorHdLine
namespace Go.Proofs.YtclonnpglikddaaGreatDoor
set_option linter.unusedVariables false
set_option linter.unusedSimpArgs false
open Go.RowKit Go.BigFrame
attribute [local go_sem ↓] slI_eq

theorem OwnH.shape {w : World} {b : Nat} {v : Value} {l : List HdV} (h : OwnH w b v l) : ∃ A c, v = .slice A l.length c := by
  rcases h with ⟨rfl, rfl⟩ | ⟨g, cap, rfl, h2⟩
  · exact ⟨none, 0, rfl⟩
  · exact ⟨_, cap, rfl⟩
theorem const_conv (W : World) (c : Int) : (convert 23 23 (.slice (some ⟨W.heap.size, 0, none⟩) 1 1)).run Tryz.prog (W.alloc (.cells #[.int .u8 c] 5)) = .ok (.slice (some ⟨W.heap.size, 0, none⟩) 1 1) (W.alloc (.cells #[.int .u8 c] 5 (1, 2))) := Lib.run_convert_bytes_const W 23 5 #[.int .u8 c] 1 1 Tryz.underlying23 Tryz.underlying5
theorem const_cell (W : World) (c : Int) : (W.alloc (.cells #[.int .u8 c] 5 (1, 2))).cell? ⟨W.heap.size, 0, none⟩ = some (.int .u8 c) := cell_of_row _ _ _ _ _ _ (heap_alloc_new W _)
set_option maxHeartbeats 4000000 in
set_option maxRecDepth 100000 in
theorem parse9_any (b : List UInt8) (X : Addr) (c : Nat) (hb : b.length ≤ 1000000) (hc : b.length ≤ c) (w : World) (hT : TabS w) (hA : BytesAt w (some X) b) : Calls Tryz.prog 38 #[.slice (some X) b.length c] w fun e w' => ∃ v, e = .returned (.tuple #[v, .int .i64 (parseH b).2.1, .int .i64 (parseH b).2.2]) ∧ OwnH w' w.heap.size v (parseH b).1 ∧ Below w.heap.size w w' := by
  have HA := hid (hA.take 8192)
  have HT := hid hT
  have HLZ := hid (leads_zero b)
  have HUN := hid (fun W => unended_any b (some X) c W)
  have HDEC := hid (head_dec b)
  clear hA hT
  generalize hP : parseH b = P
  have HP := hid hP
  clear hP
  have HTL : Hid ((b.take 8192).length = min b.length 8192) := by show _ = _; rw [List.length_take]; omega
  generalize hn : b.length = n at hb hc HTL HUN HDEC ⊢
  have HN := hid hn
  clear hn
  have hmin : min (n : Int) 8192 = ((min n 8192 : Nat) : Int) := by omega
  have hh1 : min n 8192 ≤ c := by omega
  have hh2 : min n 8192 ≤ n := by omega
  have hh3 : min n 8192 ≤ 8192 := by omega
  generalize min n 8192 = h at hmin hh1 hh2 hh3 HTL
  have hh4 : (h : Int) ≤ (c : Int) := by omega
  have hh0 : (0 : Int) ≤ (h : Int) := by omega
  go_enter Tryz.func38, Tryz.ntmps38
  go_wp2_with fail
  clear hmin hh4 hh0
  go_loopw [2, 3] (fun v i wr => ∃ k : Nat, k ≤ h ∧ i = .int .i64 (k : Int) ∧ ∃ out, out.length ≤ 64 ∧ Hid (LeadsH b k out) ∧ Hid (OwnH wr w.heap.size v out) ∧ Hid (Below w.heap.size w wr)) (fun v i wr => n - (intOf i).toNat)
  case atStart => exact ⟨0, Nat.zero_le _, rfl, [], by simp, HLZ, .inl ⟨rfl, rfl⟩, Below.refl _ _⟩
  case round =>
    obtain ⟨k, hk, rfl, out, hout, HLD, HO, HB⟩ := hrel
    have hsl := slI_run X h c k hk hh1
    have HY := hid (slI_at HA.out HTL.out hh1 k hk)
    generalize (if c = k then X else X.add k) = Y at hsl HY
    have hcv := const_conv wr 10
    have HCL := hid (const_cell wr 10)
    have HW1 := hid (alloc_below HB.out HB.out.size (.cells #[.int .u8 10] 5 (1, 2)))
    have HO1 := hid (HO.out.below (alloc_below (Below.refl _ wr) (Nat.le_refl _) (.cells #[.int .u8 10] 5 (1, 2))))
    have HHK : Hid (((b.take 8192).drop k).length = h - k) := by show _ = _; rw [List.length_drop, HTL.out]
    obtain ⟨AV, cv, hv⟩ := HO.out.shape
    subst hv
    clear HO
    rcases HDEC.out k (by omega) (by omega) with hno | ⟨a, x, hax, hla, hfit⟩
    · have HPE : Hid (P = ([], 0, if 8192 < n then 3 else 10)) := by
        show _ = _
        have hbn := HN.out
        rw [← HP.out, ← hbn]
        exact HLD.out.unended (by omega) (by omega) hno
      have HCUT : Hid (∀ W, TabS W → BytesAt W (some Y) ((b.take 8192).drop k) → W.cell? ⟨wr.heap.size, 0, none⟩ = some (.int .u8 10) → Calls Tryz.prog 64 #[.slice (some Y) (h - k) (c - k), .slice (some ⟨wr.heap.size, 0, none⟩) 1 1] W fun e w' => e = .returned (.tuple #[.slice (some Y) (h - k) (c - k), .slice none 0 0, .bool false]) ∧ Below W.heap.size W w') := fun W h1 h2 h3 => by
        have := cutLF_no ((b.take 8192).drop k) (some Y) (c - k) wr.heap.size 1 W h1 h2 (by rw [HHK.out]; omega) (by rw [HHK.out]; omega) (by simp) h3 hno
        rwa [HHK.out] at this
      clear hno HO1 HLD
      generalize (if 8192 < n then (3 : Int) else 10) = E at HPE HUN
      go_wp2_with fail
      refine (HCUT.out _ (HT.out.below HW1.out) (HY.out.below HW1.out (Nat.le_refl _)) HCL.out).mono ?_
      rintro e W2 ⟨rfl, hb2⟩
      have HB2 := hid (HW1.out.trans (hb2.mono HW1.out.size))
      clear hb2 hcv hsl
      go_wp2_with fail
      refine (HUN.out _).mono ?_
      rintro e W3 ⟨rfl, rfl⟩
      go_wp2_with fail
      go_ret3
      exact ⟨_, by rw [HPE.out]; rfl, by rw [HPE.out]; exact .inl ⟨rfl, rfl⟩, HB2.out⟩
    · have HAX : Hid ((a ++ 10 :: x).length = h - k) := by show _ = _; rw [← hax]; exact HHK.out
      have HAY : Hid (BytesAt w (some Y) (a ++ 10 :: x)) := by have := HY.out; rw [hax] at this; exact this
      have hal : a.length + 1 ≤ h - k := by have := HAX.out; rw [List.length_append, List.length_cons] at this; omega
      have HNO := hid hla.1
      have HLA := hid hla
      have HAA : Hid (BytesAt w (some Y) a) := by
        have := HAY.out.take a.length
        rw [List.take_left] at this
        exact this
      have HCUT : Hid (∀ W, TabS W → BytesAt W (some Y) (a ++ 10 :: x) → W.cell? ⟨wr.heap.size, 0, none⟩ = some (.int .u8 10) → Calls Tryz.prog 64 #[.slice (some Y) (h - k) (c - k), .slice (some ⟨wr.heap.size, 0, none⟩) 1 1] W fun e w' => e = .returned (.tuple #[.slice (some Y) a.length (c - k), Lib.fromV (some Y) (h - k) (c - k) (a.length + 1), .bool true]) ∧ Below W.heap.size W w') := fun W h1 h2 h3 =>
        cutLF_at a x (some Y) (h - k) (c - k) wr.heap.size 1 W h1 h2 HAX.out (by omega) (by omega) (by simp) h3 HNO.out
      have HTR := hid (fun g W h1 h2 => trimCR_any a (some Y) (c - k) g 1 W h1 (by omega) (by omega) h2)
      have HCC : Hid (BytesAt w (some Y) (crH a)) := by
        have := HAA.out.take (crH a).length
        rw [← cr_take] at this
        exact this
      have hcl := cr_le a
      have HEND : Hid (crH a = [] → P = (out, k + a.length + 1, 0)) := fun h => by rw [← HP.out]; exact HLD.out.end hla hfit h
      have HBAD : Hid (crH a ≠ [] → oneB (crH a) = false → P = ([], 0, 5)) := fun h1 h2 => by rw [← HP.out]; exact HLD.out.bad hla hfit h1 h2
      have HMANY : Hid (crH a ≠ [] → oneB (crH a) = true → out.length = 64 → P = ([], 0, 3)) := fun h1 h2 h3 => by rw [← HP.out]; exact HLD.out.many hla hfit h1 h2 h3
      have HON : Hid (crH a ≠ [] → oneB (crH a) = true → ¬ out.length = 64 → LeadsH b (k + a.length + 1) (out ++ [oneV (crH a)])) := fun h1 h2 h3 => HLD.out.on hla hfit h1 h2 h3
      have HRL := hid (fun W hW => readLine_any (crH a) (by omega) W hW)
      have HLV : Hid (oneB (crH a) = true → lineV (crH a) = oneV (crH a)) := fun h => by unfold lineV; rw [if_pos h]
      clear hax hla HAX HLD HNO HLA hfit
      generalize Lib.fromV (some Y) (h - k) (c - k) (a.length + 1) = FV at HCUT
      generalize hcr : crH a = cr at HTR HCC HEND HBAD HMANY HON HRL HLV hcl
      clear hcr
      generalize a.length = al at HCUT HTR HEND HON hal hcl
      have HCZ : Hid (cr.length = 0 ↔ cr = []) := List.length_eq_zero_iff
      have HSTR : Hid (∀ W, BytesAt W (some Y) cr → (convert 23 9 (.slice (some Y) cr.length (c - k))).run Tryz.prog W = .ok (.string (asS cr)) W) := fun W h => str_part h rfl
      generalize cr.length = z at HTR HCZ HSTR hcl
      generalize hOL : out.length = L at hout HMANY HON HO1 ⊢
      have HOL := hid hOL
      clear hOL
      go_wp2_with fail
      refine (HCUT.out _ (HT.out.below HW1.out) (HAY.out.below HW1.out (Nat.le_refl _)) HCL.out).mono ?_
      rintro e W2 ⟨rfl, hb2⟩
      have HB2 := hid (HW1.out.trans (hb2.mono HW1.out.size))
      have HO2 := hid (HO1.out.below hb2)
      clear hb2 hcv hsl HO1 HCUT
      have hcv := const_conv W2 13
      have HCL2 := hid (const_cell W2 13)
      have HW3 := hid (alloc_below HB2.out HB2.out.size (.cells #[.int .u8 13] 5 (1, 2)))
      have HO3 := hid (HO2.out.below (alloc_below (Below.refl _ W2) (Nat.le_refl _) (.cells #[.int .u8 13] 5 (1, 2))))
      go_wp2_with fail
      refine (HTR.out W2.heap.size _ (HAA.out.below HW3.out (Nat.le_refl _)) HCL2.out).mono ?_
      rintro e W3 ⟨rfl, rfl⟩
      generalize W2.alloc (.cells #[.int .u8 13] 5 (1, 2)) = W3 at HW3 HO3 ⊢
      clear hcv HCL2 HO2
      by_cases hz : z = 0
      · have HPE := hid (HEND.out (HCZ.out.1 hz))
        have h0 : ((z : Int) == 0) = true := by rw [hz]; rfl
        clear hz
        go_wp2_with fail
        go_ret3
        have hi9 : (k : Int) + ((al : Int) + 1) = ((k + al + 1 : Nat) : Int) := by omega
        refine ⟨.slice AV L cv, ?_, ?_, HW3.out⟩
        · rw [HPE.out]
          show Ending.returned (Value.tuple #[Value.slice AV L cv, Value.int IntKind.i64 ((k : Int) + ((al : Int) + 1)), Value.int IntKind.i64 0]) = _
          rw [hi9]
        · rw [HPE.out]
          exact HO3.out
      · have hcn : cr ≠ [] := fun h => hz (HCZ.out.2 h)
        have h0 : ((z : Int) == 0) = false := by rw [beq_eq_false_iff_ne]; omega
        have hst := HSTR.out W3 (HCC.out.below HW3.out (Nat.le_refl _))
        have HRL2 := hid (HRL.out W3 (HT.out.below HW3.out))
        have HBAD2 := hid (HBAD.out hcn)
        have HMANY2 := hid (HMANY.out hcn)
        have HON2 := hid (HON.out hcn)
        unfold hcs at HRL2
        have HNV : Hid (asS (lineV cr).name = asS (lineV cr).name ∧ asS (lineV cr).value = asS (lineV cr).value) := ⟨rfl, rfl⟩
        clear hz HBAD HMANY HON hcn HCZ
        generalize hNm : asS (lineV cr).name = Nm at HRL2
        generalize hVl : asS (lineV cr).value = Vl at HRL2
        have HNm := hid hNm
        have HVl := hid hVl
        clear hNm hVl HNV
        generalize asS cr = S at hst HRL2
        generalize oneB cr = ok at HRL2 HBAD2 HMANY2 HON2 HLV
        cases ok
        · have HPE := hid (HBAD2.out (by trivial))
          go_wp2_with fail
          refine HRL2.out.mono ?_
          rintro e W4 ⟨rfl, hb4⟩
          have HB4 := hid (HW3.out.trans (hb4.mono HW3.out.size))
          have HB5 := hid (alloc_below HB4.out HB4.out.size (.cells #[.string Nm, .string Vl] 69))
          clear hb4 hst
          go_wp2_with fail
          go_ret3
          exact ⟨_, by rw [HPE.out]; rfl, by rw [HPE.out]; exact .inl ⟨rfl, rfl⟩, HB5.out⟩
        · by_cases hL : L = 64
          · have HPE := hid (HMANY2.out (by trivial) hL)
            have hL1 : ((L : Int) == 64) = true := by rw [hL]; rfl
            clear hL
            go_wp2_with fail
            refine HRL2.out.mono ?_
            rintro e W4 ⟨rfl, hb4⟩
            have HB4 := hid (HW3.out.trans (hb4.mono HW3.out.size))
            have HB5 := hid (alloc_below HB4.out HB4.out.size (.cells #[.string Nm, .string Vl] 69))
            clear hb4 hst
            go_wp2_with fail
            go_ret3
            exact ⟨_, by rw [HPE.out]; rfl, by rw [HPE.out]; exact .inl ⟨rfl, rfl⟩, HB5.out⟩
          · have HLN := hid (HON2.out (by trivial) hL)
            have hL1 : ((L : Int) == 64) = false := by rw [beq_eq_false_iff_ne]; omega
            have hL2 : L < 64 := by omega
            have HE1 : Hid (lineV cr = oneV cr) := HLV.out (by trivial)
            clear hL
            go_wp2_with fail
            refine HRL2.out.mono ?_
            rintro e W4 ⟨rfl, hb4⟩
            have HB4 := hid (HW3.out.trans (hb4.mono HW3.out.size))
            have HO4 := hid ((HO3.out.below hb4).below (alloc_below (Below.refl _ W4) (Nat.le_refl _) (.cells #[.string Nm, .string Vl] 69)))
            have HB5 := hid (alloc_below HB4.out HB4.out.size (.cells #[.string Nm, .string Vl] 69))
            have q1 : (W4.alloc (.cells #[.string Nm, .string Vl] 69)).cell? ⟨W4.heap.size, 0, none⟩ = some (.string Nm) := cell_of_row _ _ _ _ _ _ (heap_alloc_new W4 _)
            have q2 : (W4.alloc (.cells #[.string Nm, .string Vl] 69)).cell? ⟨W4.heap.size, 1, none⟩ = some (.string Vl) := cell_of_row _ _ _ _ _ _ (heap_alloc_new W4 _)
            have HSR := hid (src_hd (W4.alloc (.cells #[.string Nm, .string Vl] 69)) (lineV cr) Nm Vl HNm.out.symm HVl.out.symm 1)
            rw [show (W4.alloc (.cells #[.string Nm, .string Vl] 69)).heap.size = W4.heap.size + 1 from by simp] at HSR
            have HO6 := hid (HO4.out.below (alloc_below (Below.refl _ (W4.alloc (.cells #[.string Nm, .string Vl] 69))) (Nat.le_refl _) (.cells #[.string Nm, .string Vl] 69)))
            have HB6 := hid (alloc_below HB5.out HB5.out.size (.cells #[.string Nm, .string Vl] 69))
            have HLE : Hid (out.length + [lineV cr].length ≤ 1000000) := by show _ ≤ _; rw [HOL.out]; simp; omega
            clear hb4 hst
            go_wp2_with (first
              | (refine wpList_hd rfl _ _ rfl w.heap.size _ _ out [lineV cr] rfl rfl HO6.out HSR.out (by simp) HLE.out HB6.out.size ?_)
              | fail)
            intro v7 W7 hown7 hb7
            have HB7 := hid (HB6.out.trans hb7)
            have HO7 := hid hown7
            clear hown7 hb7 q1 q2
            go_wp2_with fail
            go_roundw
            case rel => exact ⟨k + al + 1, by omega, by exact congrArg (Value.int IntKind.i64) (by omega), out ++ [lineV cr], by rw [List.length_append, HOL.out]; simp; omega, by rw [HE1.out]; exact HLN, HO7, HB7⟩
            case measure => simp [intOf]; omega
end Go.Proofs.YtclonnpglikddaaGreatDoor
