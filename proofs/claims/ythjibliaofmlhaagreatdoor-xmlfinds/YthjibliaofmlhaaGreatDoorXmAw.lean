
/- A small file is read: what the statements' awake does, where attributes of package xml does what it is to. -/
import Derived.Test.YthjibliaofmlhaaGreatDoorXmPar
import Derived.Test.YthjibliaofmlhaaGreatDoorXmInner
namespace Go.Proofs.YthjibliaofmlhaaGreatDoor
set_option linter.unusedVariables false
set_option linter.unusedSimpArgs false
open Go.RowKit Go.BigFrame
attribute [local go_sem ↓] loadN_eq storeN_eq

def awB : List UInt8 := [60, 97, 32, 98, 61, 34, 49, 34, 62, 120, 60, 99, 47, 62, 60, 47, 97, 62]
def awD : List UInt8 := [60, 33, 68, 79, 67, 84, 89, 80, 69, 32, 97, 62, 60, 97, 47, 62]
def awT : Tr 40 := (([97], [⟨[98], [49]⟩], []), [leaf 39 ([], [], [120]), leaf 39 ([99], [], [])])
theorem aw_par : parX awB = .ok awT := by kernel_rfl
theorem aw_den : parX awD = .error 8 := by kernel_rfl
theorem aw_text : textT 40 awT = [120] := by kernel_rfl
theorem aw_list : (listT 40 1 awT).length = 3 := by kernel_rfl
theorem one_eq9 (c d : UInt8) : ((asS [c]).toList == [d]) = decide (c = d) := by
  have h := str_same [c] [d]
  have k : (⟨[d].toArray⟩ : ByteArray).toList = [d] := by rw [ByteArray.toList_eq]
  rw [k] at h
  refine h.trans ?_
  by_cases e : c = d
  · rw [decide_eq_true e, decide_eq_true (by rw [e])]
  · rw [decide_eq_false e, decide_eq_false (by simpa using e)]
set_option maxHeartbeats 1000000 in
set_option maxRecDepth 100000 in
theorem awake13_any (HAT : AtOk) (w : World) (h8 : 8 ≤ w.heap.size) (hT : TabE w) : Calls Tryz.prog 9 #[] w fun e w' => e = .returned (.bool true) ∧ Below w.heap.size w w' := by
  have H1 : Hid (Calls Tryz.prog 14 #[.string ⟨#[60, 97, 32, 98, 61, 34, 49, 34, 62, 120, 60, 99, 47, 62, 60, 47, 97, 62]⟩] w (ParPost (.ok awT) w)) := by
    have := parse13_any HAT awB w h8 hT
    rw [aw_par] at this
    exact this
  have H2 : Hid (∀ W, 8 ≤ W.heap.size → TabE W → Calls Tryz.prog 14 #[.string ⟨#[60, 33, 68, 79, 67, 84, 89, 80, 69, 32, 97, 62, 60, 97, 47, 62]⟩] W (ParPost (.error 8) W)) := fun W h1 h2 => by
    have := parse13_any HAT awD W h1 h2
    rw [aw_den] at this
    exact this
  have HT := hid hT
  have H8 := hid h8
  clear HAT hT h8
  go_enter Tryz.func9, Tryz.ntmps9
  go_wp2_with fail
  refine H1.out.mono ?_
  rintro e W1 ⟨hb1, (⟨t, cs, ht, rfl, hnd⟩ | ⟨er, ht, _⟩)⟩
  rotate_left
  · cases ht
  injection ht with ht
  subst ht
  obtain ⟨aA, ac, kA, kc, hcs, hat, _, _⟩ := hnd.parts
  have hcs' : cs = #[.string (asS [97]), .slice aA 1 ac, .string (asS []), .slice kA 2 kc] := hcs
  have HND := hid hnd
  have HAT := hid hat
  have HB1 := hid hb1
  have HT1 := hid (HT.out.below hb1)
  have HZ1 := hid hb1.size
  clear hnd hat hb1 hcs
  subst hcs'
  have HT0 : Hid (∀ a, (.string (asS []) : Value) = a → a.oneCell' = true) := fun a e => by subst e; rfl
  go_wp2_with (first
    | (refine store_msg infoN rfl _ _ rfl W1.heap.size _ _ _ _ rfl rfl rfl rfl rfl rfl _ (heap_alloc_new W1 _) rfl ?_)
    | fail)
  intro W2 ho2 hr2
  have hb2 := ((Below.refl _ W1).alloc (Nat.le_refl _) (.cells #[.string ⟨#[]⟩, .slice none 0 0, .string ⟨#[]⟩, .slice none 0 0] 25)).trans (ho2.below (Nat.le_refl _))
  have HB2 := hid (HB1.out.trans (hb2.mono HB1.out.size))
  have HR2 := hid hr2
  have HBX := hid hb2
  have HP2 := hid (H2.out W2 (by have := H8.out; have := HB2.out.size; omega) (HT1.out.below hb2))
  clear ho2 hr2 hb2
  go_wp2_with fail
  refine HP2.out.mono ?_
  rintro e W3 ⟨hb3, (⟨t, cs, ht, _⟩ | ⟨er, ht, _, rfl⟩)⟩
  · cases ht
  obtain rfl : 8 = er := by injection ht
  have HB3 := hid (HB2.out.trans (hb3.mono HB2.out.size))
  have HR3 := hid (row_keep hb3 HR2.out)
  have HB13 := hid (HBX.out.trans (hb3.mono HBX.out.size))
  clear hb3 ht
  go_wp2_with (first
    | (refine store_msg infoN rfl _ _ rfl W3.heap.size _ _ _ _ rfl rfl rfl rfl rfl rfl _ (heap_alloc_new W3 _) rfl ?_)
    | fail)
  intro W4 ho4 hr4
  have hb4 := ((Below.refl _ W3).alloc (Nat.le_refl _) (.cells #[.string ⟨#[]⟩, .slice none 0 0, .string ⟨#[]⟩, .slice none 0 0] 25)).trans (ho4.below (Nat.le_refl _))
  have HB4 := hid (HB3.out.trans (hb4.mono HB3.out.size))
  have HR4 := hid (row_keep hb4 HR3.out)
  have HB14 := hid (HB13.out.trans (hb4.mono HB13.out.size))
  clear ho4 hr4 hb4
  have hld4 := loadN_run HR4.out rfl
  have HAC := hid (attr_any [98] [⟨[98], [49]⟩] 1 rfl (by decide) aA ac (asS [97]) (asS []) kA 2 kc W4 (HAT.out.1.below HB14.out (Nat.le_refl _)) (fun j hj => by obtain rfl : j = 0 := (by simpa using hj); decide))
  have hav : attrV [98] [⟨[98], [49]⟩] = some [49] := by decide
  rw [hav] at HAC
  have HAC2 : Hid (Calls Tryz.prog 17 #[.agg #[.string (asS [97]), .slice aA 1 ac, .string (asS []), .slice kA 2 kc], .string ⟨#[98]⟩] W4 fun e w' => e = .returned (.tuple #[.string (asS [49]), .bool true]) ∧ Below W4.heap.size W4 w') := HAC.out
  clear hav HAC
  have q1 := one_eq9 97 97
  have q2 := one_eq9 49 49
  have q3 := one_eq9 120 120
  rw [decide_eq_true rfl] at q1 q2 q3
  have HTX := hid (fun W (hb : Below W1.heap.size W1 W) => text_any 40 awT #[.string (asS [97]), .slice aA 1 ac, .string (asS []), .slice kA 2 kc] W ((HND.out.below hb (Nat.le_refl _)).mono fun q _ hl => hl) (by rw [aw_list]; decide) (by rw [aw_text]; decide))
  rw [aw_text] at HTX
  generalize asS [97] = SA at hld4 HAC2 HR4 q1 HTX
  generalize asS [49] = SV at HAC2 q2
  generalize asS [120] = SX at HTX q3
  generalize asS [] = SE at hld4 HAC2 HR4 HTX
  clear HND
  go_wp2_with fail
  refine HAC2.out.mono ?_
  rintro e W5 ⟨rfl, hb5⟩
  have HB5 := hid (HB4.out.trans (hb5.mono HB4.out.size))
  have hr5 := row_keep hb5 HR4.out
  have HB15 := hid (HB14.out.trans (hb5.mono HB14.out.size))
  have hld5 := loadN_run hr5 rfl
  have c0 : W5.cell? ⟨W1.heap.size, 0, none⟩ = some (.string SA) := cell_of_row _ _ _ _ _ _ hr5
  have c3 : W5.cell? ⟨W1.heap.size, 3, none⟩ = some (.slice kA 2 kc) := cell_of_row _ _ _ _ _ _ hr5
  have HTX5 := hid (HTX.out W5 HB15.out)
  clear hb5 hr5 hld4
  go_wp2_with fail
  refine HTX5.out.mono ?_
  rintro e W6 ⟨rfl, hb6⟩
  have HB6 := hid (HB5.out.trans (hb6.mono HB5.out.size))
  clear hb6
  go_wp2_with fail
  go_ret
  exact ⟨rfl, HB6.out⟩
end Go.Proofs.YthjibliaofmlhaaGreatDoor
