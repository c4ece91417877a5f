
/- A line read: what readLine of package header does. -/
import Derived.Test.YtclonnpglikddaaGreatDoorHdCop
namespace Go.Proofs.YtclonnpglikddaaGreatDoor
set_option linter.unusedVariables false
set_option linter.unusedSimpArgs false
open Go.RowKit Go.BigFrame

/-- The library's variable MaxLen holds some number. -/
structure TabS (w : World) : Prop where
  max : ∃ m, w.cell? ⟨0, 0, none⟩ = some (.int .i64 m)
theorem TabS.lt {w : World} (h : TabS w) : 0 < w.heap.size := by
  obtain ⟨m, hm⟩ := h.max
  exact block_lt_of_cell hm
theorem TabS.below {w w' : World} (h : TabS w) (hb : Below w.heap.size w w') : TabS w' := by
  have hlt := h.lt
  obtain ⟨m, hm⟩ := h.max
  exact ⟨m, by rw [hb.cell (p := ⟨0, 0, none⟩) (by simp; omega)]; exact hm⟩
theorem cut58_any (l : List UInt8) (hl : l.length ≤ 1000000) (w : World) (hT : TabS w) : Calls Tryz.prog 77 #[.string (asS l), .string ⟨#[58]⟩] w fun e w' => e = .returned (.tuple #[.string (asS (Lib.cut l [58]).1), .string (asS (Lib.cut l [58]).2.1), .bool (Lib.cut l [58]).2.2]) ∧ Below w.heap.size w w' := by
  obtain ⟨m, hm⟩ := hT.max
  refine (Tryz.strings_Cut (asS l) ⟨#[58]⟩ m w (by rw [asS_size]; omega) hm).mono ?_
  rintro e w' ⟨rfl, n, rfl⟩
  exact ⟨rfl, below_drewN _ _ _⟩
theorem zero_hd : hcs zeroH = #[.string ⟨#[]⟩, .string ⟨#[]⟩] := rfl
def lineV (l : List UInt8) : HdV := if oneB l then oneV l else zeroH
set_option maxHeartbeats 1000000 in
set_option maxRecDepth 100000 in
theorem readLine_any (l : List UInt8) (hl : l.length ≤ 1000000) (w : World) (hT : TabS w) : Calls Tryz.prog 69 #[.string (asS l)] w fun e w' => e = .returned (.tuple #[.agg (hcs (lineV l)), .bool (oneB l)]) ∧ Below w.heap.size w w' := by
  have HC := hid (fun W hW => cut58_any l hl W hW)
  have HT := hid hT
  clear hT
  rcases first_dec 58 l with hno | ⟨a, x, rfl, hno⟩
  · have HV := hid (oneV_no l hno)
    rw [cut_no 58 l hno] at HC
    have HTR : Hid (∀ W, Calls Tryz.prog 94 #[.string (asS []), .string ⟨#[32, 9]⟩] W fun e w' => e = .returned (.string (asS [])) ∧ Below W.heap.size W w') := fun W => trim9_any [] (by simp) W
    have HCP := hid (fun W => copied_any l [] (by omega) (by simp) W)
    have HZ : Hid (lineV l = zeroH) := by show _ = _; unfold lineV; rw [HV.out.2]; rfl
    rw [HZ.out, HV.out.2]
    unfold hcs at HCP
    simp only at HC HCP
    generalize asS l = S at HC HCP ⊢
    generalize asS [] = E at HC HCP HTR
    clear HV hno hl
    go_enter Tryz.func69, Tryz.ntmps69
    go_wp2_with fail
    have HB0 := hid (alloc_below (Below.refl w.heap.size w) (Nat.le_refl _) (.cells #[.string ⟨#[]⟩, .string ⟨#[]⟩] 69))
    have HR0 := hid (heap_alloc_new w (.cells #[.string ⟨#[]⟩, .string ⟨#[]⟩] 69))
    have HS0 : Hid (w.heap.size + 1 ≤ (w.alloc (.cells #[.string ⟨#[]⟩, .string ⟨#[]⟩] 69)).heap.size) := by show _ ≤ _; simp
    generalize w.alloc (.cells #[.string ⟨#[]⟩, .string ⟨#[]⟩] 69) = W0 at HB0 HR0 HS0 ⊢
    refine (HC.out _ (HT.out.below HB0.out)).mono ?_
    rintro e W1 ⟨rfl, hb1⟩
    have HB1 := hid hb1
    clear hb1
    go_wp2_with fail
    refine (HTR.out _).mono ?_
    rintro e W2 ⟨rfl, hb2⟩
    have HB2 := hid (HB1.out.trans (hb2.mono HB1.out.size))
    clear hb2
    go_wp2_with fail
    refine (HCP.out _).mono ?_
    rintro e W3 ⟨rfl, hb3⟩
    have HB3 := hid (HB2.out.trans (hb3.mono HB2.out.size))
    clear hb3
    have HB4 := hid (alloc_below HB3.out HB3.out.size (.cells #[.string S, .string E] 69))
    have HR4 := hid ((HB4.out.block w.heap.size (by have := HS0.out; omega)).trans HR0.out)
    go_wp2_with (first
      | (refine store_hd rfl _ _ rfl w.heap.size zeroH rfl rfl _ HR4.out rfl ?_)
      | fail)
    intro W5 ho5 hr5
    have HO5 := hid ho5
    have HR5 := hid hr5
    clear ho5 hr5
    go_wp2_with fail
    exact bodyPost_ret (ret_hd2 (p := 2) (q := 3) Tryz.results69 _ _ w.heap.size zeroH (0, 0) _ rfl rfl HR5.out) rfl ⟨rfl, HB0.out.trans ((HB4.out.mono HB0.out.size).trans (HO5.out.below (Nat.le_refl _)))⟩
  · have HV := hid (oneV_at a x hno)
    have hla : a.length ≤ 1000000 ∧ x.length ≤ 1000000 := by rw [List.length_append, List.length_cons] at hl; omega
    rw [cut_at 58 a x hno] at HC
    have HTR := hid (fun W => trim9_any x (by omega) W)
    have htx : (trimH x).length ≤ 1000000 := Nat.le_trans (trim_len x) hla.2
    have HCP := hid (fun W => copied_any a (trimH x) (by omega) (by omega) W)
    have HMB := hid (fun W => mayBe_any ⟨a, trimH x⟩ (by show a.length ≤ _; omega) (by show (trimH x).length ≤ _; omega) W)
    have HL : Hid (lineV (a ++ 58 :: x) = if mayH ⟨a, trimH x⟩ then ⟨a, trimH x⟩ else zeroH) := by show _ = _; unfold lineV; rw [HV.out.2, HV.out.1]
    rw [HV.out.2, HL.out]
    have HRE : Hid (hcs ⟨a, trimH x⟩ = #[.string (asS a), .string (asS (trimH x))]) := rfl
    unfold hcs at HCP HMB
    simp only at HC HCP HMB
    generalize asS (a ++ 58 :: x) = S at HC ⊢
    generalize asS a = N at HC HCP HMB HRE
    generalize asS x = X at HC HTR
    generalize asS (trimH x) = V at HCP HTR HMB HRE
    clear HV HL hno hl hla htx
    generalize mayH ⟨a, trimH x⟩ = m at HMB ⊢
    cases m
    · simp only [Bool.false_eq_true, if_false]
      go_enter Tryz.func69, Tryz.ntmps69
      go_wp2_with fail
      have HB0 := hid (alloc_below (Below.refl w.heap.size w) (Nat.le_refl _) (.cells #[.string ⟨#[]⟩, .string ⟨#[]⟩] 69))
      have HR0 := hid (heap_alloc_new w (.cells #[.string ⟨#[]⟩, .string ⟨#[]⟩] 69))
      have HS0 : Hid (w.heap.size + 1 ≤ (w.alloc (.cells #[.string ⟨#[]⟩, .string ⟨#[]⟩] 69)).heap.size) := by show _ ≤ _; simp
      generalize w.alloc (.cells #[.string ⟨#[]⟩, .string ⟨#[]⟩] 69) = W0 at HB0 HR0 HS0 ⊢
      refine (HC.out _ (HT.out.below HB0.out)).mono ?_
      rintro e W1 ⟨rfl, hb1⟩
      have HB1 := hid hb1
      clear hb1
      go_wp2_with fail
      refine (HTR.out _).mono ?_
      rintro e W2 ⟨rfl, hb2⟩
      have HB2 := hid (HB1.out.trans (hb2.mono HB1.out.size))
      clear hb2
      go_wp2_with fail
      refine (HCP.out _).mono ?_
      rintro e W3 ⟨rfl, hb3⟩
      have HB3 := hid (HB2.out.trans (hb3.mono HB2.out.size))
      clear hb3
      have HB4 := hid (alloc_below HB3.out HB3.out.size (.cells #[.string N, .string V] 69))
      go_wp2_with fail
      refine (HMB.out _).mono ?_
      rintro e W5 ⟨rfl, hb5⟩
      have HB5 := hid (HB4.out.trans (hb5.mono HB4.out.size))
      have HR5 := hid ((HB5.out.block w.heap.size (by have := HS0.out; omega)).trans HR0.out)
      have q1 : W5.cell? ⟨W3.heap.size, 0, none⟩ = some (.string N) := (hb5.cell (p := ⟨W3.heap.size, 0, none⟩) (by simp)).trans (cell_of_row _ _ _ _ _ _ (heap_alloc_new W3 _))
      have q2 : W5.cell? ⟨W3.heap.size, 1, none⟩ = some (.string V) := (hb5.cell (p := ⟨W3.heap.size, 1, none⟩) (by simp)).trans (cell_of_row _ _ _ _ _ _ (heap_alloc_new W3 _))
      clear hb5
      go_wp2_with (first
        | (refine store_hd rfl _ _ rfl w.heap.size zeroH rfl rfl _ HR5.out rfl ?_)
        | fail)
      intro W6 ho6 hr6
      have HO6 := hid ho6
      have HR6 := hid hr6
      clear ho6 hr6
      go_wp2_with fail
      exact bodyPost_ret (ret_hd2 (p := 2) (q := 3) Tryz.results69 _ _ w.heap.size zeroH (0, 0) _ rfl rfl HR6.out) rfl ⟨rfl, HB0.out.trans ((HB5.out.mono HB0.out.size).trans (HO6.out.below (Nat.le_refl _)))⟩
    · simp only [if_true]
      go_enter Tryz.func69, Tryz.ntmps69
      go_wp2_with fail
      have HB0 := hid (alloc_below (Below.refl w.heap.size w) (Nat.le_refl _) (.cells #[.string ⟨#[]⟩, .string ⟨#[]⟩] 69))
      have HR0 := hid (heap_alloc_new w (.cells #[.string ⟨#[]⟩, .string ⟨#[]⟩] 69))
      have HS0 : Hid (w.heap.size + 1 ≤ (w.alloc (.cells #[.string ⟨#[]⟩, .string ⟨#[]⟩] 69)).heap.size) := by show _ ≤ _; simp
      generalize w.alloc (.cells #[.string ⟨#[]⟩, .string ⟨#[]⟩] 69) = W0 at HB0 HR0 HS0 ⊢
      refine (HC.out _ (HT.out.below HB0.out)).mono ?_
      rintro e W1 ⟨rfl, hb1⟩
      have HB1 := hid hb1
      clear hb1
      go_wp2_with fail
      refine (HTR.out _).mono ?_
      rintro e W2 ⟨rfl, hb2⟩
      have HB2 := hid (HB1.out.trans (hb2.mono HB1.out.size))
      clear hb2
      go_wp2_with fail
      refine (HCP.out _).mono ?_
      rintro e W3 ⟨rfl, hb3⟩
      have HB3 := hid (HB2.out.trans (hb3.mono HB2.out.size))
      clear hb3
      have HB4 := hid (alloc_below HB3.out HB3.out.size (.cells #[.string N, .string V] 69))
      go_wp2_with fail
      refine (HMB.out _).mono ?_
      rintro e W5 ⟨rfl, hb5⟩
      have HB5 := hid (HB4.out.trans (hb5.mono HB4.out.size))
      have HR5 := hid ((HB5.out.block w.heap.size (by have := HS0.out; omega)).trans HR0.out)
      have q1 : W5.cell? ⟨W3.heap.size, 0, none⟩ = some (.string N) := (hb5.cell (p := ⟨W3.heap.size, 0, none⟩) (by simp)).trans (cell_of_row _ _ _ _ _ _ (heap_alloc_new W3 _))
      have q2 : W5.cell? ⟨W3.heap.size, 1, none⟩ = some (.string V) := (hb5.cell (p := ⟨W3.heap.size, 1, none⟩) (by simp)).trans (cell_of_row _ _ _ _ _ _ (heap_alloc_new W3 _))
      clear hb5
      go_wp2_with (first
        | (refine store_hd rfl _ _ rfl w.heap.size ⟨a, trimH x⟩ rfl (by rw [HRE.out]; rfl) _ HR5.out rfl ?_)
        | fail)
      intro W6 ho6 hr6
      have HO6 := hid ho6
      have HR6 := hid hr6
      clear ho6 hr6
      go_wp2_with fail
      exact bodyPost_ret (ret_hd2 (p := 2) (q := 3) Tryz.results69 _ _ w.heap.size ⟨a, trimH x⟩ (0, 0) _ rfl rfl HR6.out) rfl ⟨rfl, HB0.out.trans ((HB5.out.mono HB0.out.size).trans (HO6.out.below (Nat.le_refl _)))⟩
end Go.Proofs.YtclonnpglikddaaGreatDoor
