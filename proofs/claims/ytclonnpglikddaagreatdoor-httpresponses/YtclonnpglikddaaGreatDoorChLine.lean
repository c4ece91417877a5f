
/- Lines and chunks' ends: what readLine and checkChunk of package chunk do. -/
import Derived.Test.YtclonnpglikddaaGreatDoorChSize
import Derived.Test.YtclonnpglikddaaGreatDoorHdParse
namespace Go.Proofs.YtclonnpglikddaaGreatDoor
set_option linter.unusedVariables false
set_option linter.unusedSimpArgs false
open Go.RowKit Go.BigFrame

/-- x[i:j] of bytes. -/
def slJ (x i j : Value) : Sem Value := Instr.sliceAt 23 x (some i) (some j) none
theorem slJ_eq (x i j : Value) : Instr.sliceAt 23 x (some i) (some j) none = slJ x i j := rfl
theorem slJ_run (X : Addr) (n c k h : Nat) (hk : k ≤ h) (hh : h ≤ c) (W : World) : (slJ (.slice (some X) n c) (.int .i64 k) (.int .i64 h)).run Tryz.prog W = .ok (.slice (some (if c = k then X else X.add k)) (h - k) (c - k)) W := by
  unfold slJ
  have he : Tryz.prog.elem 23 = 5 := by simp [Program.elem, Tryz.underlying23]
  have hu : Tryz.prog.underlying 23 = some (.slice (Tryz.prog.elem 23)) := by rw [he]; exact Tryz.underlying23
  rw [run_sliceAt_slice W _ _ _ _ _ hu, run_slice_lh W 23 (some X) n c hu .i64 .i64 (k : Int) (h : Int) (by omega) (by omega) (by omega), he, Tryz.sizeOf5]
  simp only [Result.andThen_ok, sliced, Int.toNat_natCast, Nat.mul_one]
  by_cases hck : c = k
  · rw [if_pos hck, if_pos hck]
  · rw [if_neg hck, if_neg hck]
    rfl
theorem slJ_at {w : World} {X : Addr} {x : List UInt8} {n c : Nat} (hA : BytesAt w (some X) x) (hx : x.length = n) (hc : n ≤ c) (k h : Nat) (hk : k ≤ h) (hh : h ≤ n) : BytesAt w (some (if c = k then X else X.add k)) ((x.drop k).take (h - k)) := (slI_at hA hx hc k (by omega)).take (h - k)
theorem unendedC (n : Nat) (A : Option Addr) (c : Nat) (w : World) : Calls Tryz.prog 120 #[.slice A n c, .int .i64 258] w fun e w' => e = .returned (.int .i64 (if n < 258 then 10 else 5)) ∧ w' = w := by
  by_cases h : n < 258
  · rw [if_pos h]
    have h1 : (n : Int) < 258 := by omega
    clear h
    go_enter Tryz.func120, Tryz.ntmps120
    go_wp2_with fail
    go_ret
    exact ⟨rfl, rfl⟩
  · rw [if_neg h]
    have h1 : ¬ (n : Int) < 258 := by omega
    clear h
    go_enter Tryz.func120, Tryz.ntmps120
    go_wp2_with fail
    go_ret
    exact ⟨rfl, rfl⟩
theorem cutCR_any (x : List UInt8) (A : Option Addr) (c g d : Nat) (w : World) (hA : BytesAt w A x) (hx : x.length ≤ 1000000) (hc : x.length ≤ c) (hg : w.cell? ⟨g, 0, none⟩ = some (.int .u8 13)) :
    Calls Tryz.prog 121 #[.slice A x.length c, .slice (some ⟨g, 0, none⟩) 1 d] w fun e w' => e = .returned (.tuple #[.slice A (crH x).length c, .bool (decide (x.getLastD 0 = 13))]) ∧ w' = w := by
  refine (Tryz.bytes_CutSuffix_all A (some ⟨g, 0, none⟩) x.length c 1 d (ints x) (ints [13]) w (ints_len x) rfl hc (by omega) hA.ints (one_in w g 13 hg)).mono ?_
  rintro e w' ⟨rfl, rfl⟩
  refine ⟨?_, rfl⟩
  rw [trimSuffixV_eq (ints_len x) hA.ints, ints_of, ints_of, suf13, ints_len]
  unfold crH
  by_cases h : x.getLastD 0 = 13
  · rw [decide_eq_true h, if_pos rfl, if_pos h, List.length_dropLast]; rfl
  · rw [decide_eq_false h, if_neg (by simp), if_neg h]
theorem last13 (a : List UInt8) (h : a.getLastD 0 = 13) : ∃ s, a = s ++ [13] ∧ crH a = s := by
  rcases List.eq_nil_or_concat a with rfl | ⟨y, z, rfl⟩
  · cases h
  · rw [List.concat_eq_append] at h ⊢
    have e : (y ++ [z]).getLastD 0 = z := by rw [List.getLastD_eq_getLast?, List.getLast?_append]; rfl
    rw [e] at h
    subst h
    refine ⟨y, rfl, ?_⟩
    unfold crH
    rw [if_pos e]
    simp
set_option maxHeartbeats 2000000 in
set_option maxRecDepth 100000 in
theorem readC_any (r : List UInt8) (X : Addr) (c : Nat) (hr : r.length ≤ 1000000) (hc : r.length ≤ c) (w : World) (hT : TabC w) (hA : BytesAt w (some X) r) : Calls Tryz.prog 95 #[.slice (some X) r.length c] w fun e w' => ∃ (S N : Nat) (E : Int), e = .returned (.tuple #[.int .i64 S, .int .i64 N, .int .i64 E]) ∧ LineC r S N E ∧ Below w.heap.size w w' := by
  have HA := hid (hA.take 258)
  have HT := hid hT
  have HUN := hid (fun W => unendedC r.length (some X) c W)
  have HTL : Hid ((r.take 258).length = min r.length 258) := by show _ = _; rw [List.length_take]; omega
  have hcv := const_conv w 10
  have HCL := hid (const_cell w 10)
  have HW1 := hid (alloc_below (Below.refl w.heap.size w) (Nat.le_refl _) (.cells #[.int .u8 10] 5 (1, 2)))
  have HSH : Hid ((10 : UInt8) ∉ r.take 258 → LineC r 0 0 (if r.length < 258 then 10 else 5)) := line_short r
  have HDC := hid (line_dec r)
  clear hA hT
  generalize hn : r.length = n at hr hc HTL HUN HSH ⊢
  have HN := hid hn
  clear hn
  have hmin : min (n : Int) 258 = ((min n 258 : Nat) : Int) := by omega
  have hh1 : min n 258 ≤ c := by omega
  have hh3 : min n 258 ≤ 258 := by omega
  generalize min n 258 = h at hmin hh1 hh3 HTL
  have hh4 : (h : Int) ≤ (c : Int) := by omega
  have hh0 : (0 : Int) ≤ (h : Int) := by omega
  rcases HDC.out with hno | ⟨a, x, t, hax, hrt, hla, hal⟩
  · have HL := hid (HSH.out hno)
    have HCUT : Hid (∀ W, TabS W → BytesAt W (some X) (r.take 258) → W.cell? ⟨w.heap.size, 0, none⟩ = some (.int .u8 10) → Calls Tryz.prog 64 #[.slice (some X) h c, .slice (some ⟨w.heap.size, 0, none⟩) 1 1] W fun e w' => e = .returned (.tuple #[.slice (some X) h c, .slice none 0 0, .bool false]) ∧ Below W.heap.size W w') := fun W h1 h2 h3 => by
      have := cutLF_no (r.take 258) (some X) c w.heap.size 1 W h1 h2 (by rw [HTL.out]; omega) (by rw [HTL.out]; omega) (by simp) h3 hno
      rwa [HTL.out] at this
    clear hno
    generalize (if n < 258 then (10 : Int) else 5) = E at HL HUN
    go_enter Tryz.func95, Tryz.ntmps95
    go_wp2_with fail
    refine (HCUT.out _ (HT.out.tab.below HW1.out) (HA.out.below HW1.out (Nat.le_refl _)) HCL.out).mono ?_
    rintro e W2 ⟨rfl, hb2⟩
    have HB2 := hid (HW1.out.trans (hb2.mono HW1.out.size))
    clear hb2 hcv
    go_wp2_with fail
    refine (HUN.out _).mono ?_
    rintro e W3 ⟨rfl, rfl⟩
    go_wp2_with fail
    go_ret3
    exact ⟨0, 0, E, rfl, HL.out, HB2.out⟩
  · have HAX : Hid ((a ++ 10 :: x).length = h) := by show _ = _; rw [← hax]; exact HTL.out
    have HAY : Hid (BytesAt w (some X) (a ++ 10 :: x)) := by have := HA.out; rw [hax] at this; exact this
    have hal2 : a.length + 1 ≤ h := by have := HAX.out; rw [List.length_append, List.length_cons] at this; omega
    have HAA : Hid (BytesAt w (some X) a) := by
      have := HAY.out.take a.length
      rw [List.take_left] at this
      exact this
    have HCUT : Hid (∀ W, TabS W → BytesAt W (some X) (a ++ 10 :: x) → W.cell? ⟨w.heap.size, 0, none⟩ = some (.int .u8 10) → Calls Tryz.prog 64 #[.slice (some X) h c, .slice (some ⟨w.heap.size, 0, none⟩) 1 1] W fun e w' => e = .returned (.tuple #[.slice (some X) a.length c, Lib.fromV (some X) h c (a.length + 1), .bool true]) ∧ Below W.heap.size W w') := fun W h1 h2 h3 =>
      cutLF_at a x (some X) h c w.heap.size 1 W h1 h2 HAX.out (by omega) (by omega) (by simp) h3 hla
    have HTR := hid (fun g W h1 h2 => cutCR_any a (some X) c g 1 W h1 (by omega) (by omega) h2)
    generalize Lib.fromV (some X) h c (a.length + 1) = FV at HCUT
    by_cases hl : a.getLastD 0 = 13
    · obtain ⟨s, hs, hcr⟩ := last13 a hl
      have h10 : (10 : UInt8) ∉ s := fun hh => hla (by rw [hs]; simp [hh])
      have hsl : s.length + 1 = a.length := by rw [hs]; simp
      have HSZ := hid (fun W hW => size_any s (by omega) W hW)
      rw [szP_eq s h10] at HSZ
      have hr2 : r = s ++ 13 :: 10 :: t := by rw [hrt, hs]; simp
      have HLN : Hid (szC s < 0 → LineC r 0 0 5) := fun hz => by rw [hr2]; exact line_neg s t h10 (by omega) hz
      have HLA : Hid (0 ≤ szC s → LineC r (szC s).toNat (a.length + 1) 0) := fun hz => by
        rw [hr2, ← hsl]
        exact line_at s t h10 (by omega) hz
      have HSS : Hid (BytesAt w (some X) s) := by
        have := HAA.out.take s.length
        rw [hs, List.take_left] at this
        exact this
      have HSTR : Hid (∀ W, BytesAt W (some X) s → (convert 23 9 (.slice (some X) s.length c)).run Tryz.prog W = .ok (.string (asS s)) W) := fun W h => str_part h rfl
      rw [decide_eq_true hl, hcr] at HTR
      clear hl hs hcr h10 hr2 hax hrt hla hsl
      generalize asS s = Ss at HSZ HSTR
      generalize s.length = sl at HTR HSTR
      generalize hal3 : a.length = al at HCUT HTR HLA hal hal2
      clear hal3
      generalize szC s = Z at HSZ HLN HLA
      by_cases hz : Z < 0
      · have HL := hid (HLN.out hz)
        rw [if_pos hz] at HSZ
        clear hz HLA HLN
        go_enter Tryz.func95, Tryz.ntmps95
        go_wp2_with fail
        refine (HCUT.out _ (HT.out.tab.below HW1.out) (HAY.out.below HW1.out (Nat.le_refl _)) HCL.out).mono ?_
        rintro e W2 ⟨rfl, hb2⟩
        have HB2 := hid (HW1.out.trans (hb2.mono HW1.out.size))
        clear hb2 hcv
        have hcv := const_conv W2 13
        have HCL2 := hid (const_cell W2 13)
        have HW3 := hid (alloc_below HB2.out HB2.out.size (.cells #[.int .u8 13] 5 (1, 2)))
        go_wp2_with fail
        refine (HTR.out W2.heap.size _ (HAA.out.below HW3.out (Nat.le_refl _)) HCL2.out).mono ?_
        rintro e W3 ⟨rfl, rfl⟩
        generalize W2.alloc (.cells #[.int .u8 13] 5 (1, 2)) = W3 at HW3 ⊢
        clear hcv HCL2
        have hst := HSTR.out W3 (HSS.out.below HW3.out (Nat.le_refl _))
        go_wp2_with fail
        refine (HSZ.out _ (HT.out.below HW3.out)).mono ?_
        rintro e W4 ⟨rfl, hb4⟩
        have HB4 := hid (HW3.out.trans (hb4.mono HW3.out.size))
        clear hb4
        go_wp2_with fail
        go_ret3
        exact ⟨0, 0, 5, rfl, HL.out, HB4.out⟩
      · obtain ⟨Zn, hZn⟩ : ∃ Zn : Nat, Z = (Zn : Int) := ⟨Z.toNat, by omega⟩
        have HL := hid (HLA.out (by omega))
        rw [if_neg hz] at HSZ
        subst hZn
        rw [Int.toNat_natCast] at HL
        clear hz HLA HLN
        go_enter Tryz.func95, Tryz.ntmps95
        go_wp2_with fail
        refine (HCUT.out _ (HT.out.tab.below HW1.out) (HAY.out.below HW1.out (Nat.le_refl _)) HCL.out).mono ?_
        rintro e W2 ⟨rfl, hb2⟩
        have HB2 := hid (HW1.out.trans (hb2.mono HW1.out.size))
        clear hb2 hcv
        have hcv := const_conv W2 13
        have HCL2 := hid (const_cell W2 13)
        have HW3 := hid (alloc_below HB2.out HB2.out.size (.cells #[.int .u8 13] 5 (1, 2)))
        go_wp2_with fail
        refine (HTR.out W2.heap.size _ (HAA.out.below HW3.out (Nat.le_refl _)) HCL2.out).mono ?_
        rintro e W3 ⟨rfl, rfl⟩
        generalize W2.alloc (.cells #[.int .u8 13] 5 (1, 2)) = W3 at HW3 ⊢
        clear hcv HCL2
        have hst := HSTR.out W3 (HSS.out.below HW3.out (Nat.le_refl _))
        go_wp2_with fail
        refine (HSZ.out _ (HT.out.below HW3.out)).mono ?_
        rintro e W4 ⟨rfl, hb4⟩
        have HB4 := hid (HW3.out.trans (hb4.mono HW3.out.size))
        clear hb4
        go_wp2_with fail
        go_ret3
        exact ⟨Zn, al + 1, 0, by rfl, HL.out, HB4.out⟩
    · have HL : Hid (LineC r 0 0 5) := by show LineC _ _ _ _; rw [hrt]; exact line_bad a t hla hal hl
      rw [decide_eq_false hl] at HTR
      clear hl hax hrt hla
      generalize hcl : (crH a).length = cl at HTR
      clear hcl
      generalize hal3 : a.length = al at HCUT HTR hal hal2
      clear hal3
      go_enter Tryz.func95, Tryz.ntmps95
      go_wp2_with fail
      refine (HCUT.out _ (HT.out.tab.below HW1.out) (HAY.out.below HW1.out (Nat.le_refl _)) HCL.out).mono ?_
      rintro e W2 ⟨rfl, hb2⟩
      have HB2 := hid (HW1.out.trans (hb2.mono HW1.out.size))
      clear hb2 hcv
      have hcv := const_conv W2 13
      have HCL2 := hid (const_cell W2 13)
      have HW3 := hid (alloc_below HB2.out HB2.out.size (.cells #[.int .u8 13] 5 (1, 2)))
      go_wp2_with fail
      refine (HTR.out W2.heap.size _ (HAA.out.below HW3.out (Nat.le_refl _)) HCL2.out).mono ?_
      rintro e W3 ⟨rfl, rfl⟩
      go_wp2_with fail
      go_ret3
      exact ⟨0, 0, 5, rfl, HL.out, HW3.out⟩
theorem pre_crlf (x : List UInt8) : Lib.hasPrefix [13, 10] x = x.isPrefixOf [13, 10] := rfl
attribute [local go_sem ↓] slJ_eq
set_option maxHeartbeats 2000000 in
set_option maxRecDepth 100000 in
theorem chk_any (t : List UInt8) (X : Addr) (c S : Nat) (ht : t.length ≤ 1000000) (hc : t.length ≤ c) (hS : S < 4294967296) (w : World) (hA : BytesAt w (some X) t) : Calls Tryz.prog 96 #[.slice (some X) t.length c, .int .i64 S] w fun e w' => e = .returned (.int .i64 (chkC t S)) ∧ w' = w := by
  by_cases hlt : t.length < S
  · have hk : chkC t S = 10 := by unfold chkC; rw [if_pos (by omega)]
    rw [hk]
    have h1 : (t.length : Int) < (S : Int) := by omega
    generalize t.length = n at h1
    clear hk hlt hA
    go_enter Tryz.func96, Tryz.ntmps96
    go_wp2_with fail
    go_ret
    exact ⟨rfl, rfl⟩
  · have hk := chk_prog t S (by omega)
    have h1 : ¬ (t.length : Int) < (S : Int) := by omega
    have HX := hid (slJ_at hA rfl hc S (min t.length (S + 2)) (by omega) (by omega))
    have HQE : Hid ((t.drop S).take (min t.length (S + 2) - S) = (t.drop S).take 2) := by
      show _ = _
      rw [List.take_eq_take_iff, List.length_drop]; omega
    rw [HQE.out] at HX
    have HQL : Hid (((t.drop S).take 2).length = min t.length (S + 2) - S) := by show _ = _; rw [List.length_take, List.length_drop]; omega
    have hmin : min (t.length : Int) ((S : Int) + 2) = ((min t.length (S + 2) : Nat) : Int) := by omega
    have hh1 : min t.length (S + 2) ≤ c := by omega
    have hh2 : S ≤ min t.length (S + 2) := by omega
    rw [hk]
    generalize (t.drop S).take 2 = q at HX HQL ⊢
    generalize t.length = n at h1 hmin hh1 hh2 HQL ht hc
    generalize min n (S + 2) = h at hmin hh1 hh2 HQL
    have hsl := slJ_run X n c S h hh2 hh1
    generalize (if c = S then X else X.add S) = Y at HX hsl
    have hst := str_part (c := c - S) HX.out HQL.out
    have HPX : Hid (∀ W, Calls Tryz.prog 123 #[.string ⟨#[13, 10]⟩, .string ⟨q.toArray⟩] W fun e w' => e = .returned (.bool (q.isPrefixOf [13, 10])) ∧ w' = W) := fun W => Tryz.strings_HasPrefix ⟨#[13, 10]⟩ ⟨q.toArray⟩ W
    have hQ : q.length = h - S := HQL.out
    rw [hQ]
    generalize (⟨q.toArray⟩ : ByteArray) = Q at hst HPX
    generalize q.isPrefixOf [13, 10] = pb at HPX ⊢
    clear hk hlt hA HX HQE HQL hQ
    generalize hz : h - S = z at hsl hst
    have hz2 : z ≤ 1000000 := by omega
    clear hz
    cases pb
    · simp only [Bool.false_eq_true, if_false]
      go_enter Tryz.func96, Tryz.ntmps96
      go_wp2_with fail
      refine (HPX.out _).mono ?_
      rintro e W1 ⟨rfl, rfl⟩
      go_wp2_with fail
      go_ret
      exact ⟨rfl, rfl⟩
    · simp only [if_true]
      by_cases h2 : z < 2
      · rw [if_pos h2]
        have h3 : (z : Int) < 2 := by omega
        clear h2
        go_enter Tryz.func96, Tryz.ntmps96
        go_wp2_with fail
        refine (HPX.out _).mono ?_
        rintro e W1 ⟨rfl, rfl⟩
        go_wp2_with fail
        go_ret
        exact ⟨rfl, rfl⟩
      · rw [if_neg h2]
        have h3 : ¬ (z : Int) < 2 := by omega
        clear h2
        go_enter Tryz.func96, Tryz.ntmps96
        go_wp2_with fail
        refine (HPX.out _).mono ?_
        rintro e W1 ⟨rfl, rfl⟩
        go_wp2_with fail
        go_ret
        exact ⟨rfl, rfl⟩
end Go.Proofs.YtclonnpglikddaaGreatDoor
