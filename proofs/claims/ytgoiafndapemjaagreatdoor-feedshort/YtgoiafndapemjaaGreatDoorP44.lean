import Derived.Test.YtgoiafndapemjaaGreatDoorP43
import Derived.Lib.SlBytesConst
import Derived.Lib.QuietBelow
import Derived.BigQuiet
import Derived.Deep.RegionHeld3
set_option linter.unusedVariables false
set_option linter.unusedSimpArgs false
set_option maxHeartbeats 1000000
namespace Go.Proofs.YtgoiafndapemjaaGreatDoor
open Go.RowKit Go.BigFrame
attribute [local go_sem ↓] loadN_eq
theorem cell_reF {w : World} {p : Addr} {v : Value} (h : w.cell? p = some v) (d : Nat) (os : Array Obj) : (Sort.grow (redrawn w d) os).cell? p = some v := by
 have hl := block_lt_of_cell h
 have hb : Below w.heap.size w (Sort.grow (redrawn w d) os) := below_regrown w d os
 rw [hb.cell hl]
 exact h
theorem row_ofC (l : List UInt8) (W : World) (fr : Nat × Nat) : BytesAt (W.alloc (.cells (bcs l) 5 fr)) (some ⟨W.heap.size, 0, none⟩) l := BytesAt.of_row (heap_alloc_new W (.cells (bcs l) 5 fr))
set_option maxHeartbeats 4000000 in
set_option maxRecDepth 100000 in
theorem awakeF (w : World) (hT : TabF w) : Calls Tryz.prog 8 #[] w fun e w' => e = .returned (.bool true) ∧ Below w.heap.size w w' := by
 have HP1 : Hid (∀ W X, Below w.heap.size w W → BytesAt W (some X) awF1 → Calls Tryz.prog 14 #[.slice (some X) 75 75] W fun e w' => ∃ A c, e = .returned (.tuple #[.agg #[.string ⟨#[84]⟩, .string ⟨#[]⟩, .slice A 1 c], .int .i64 0]) ∧ EntsAt w' A [awE] ∧ Below W.heap.size W w') := fun W X h1 h2 => by
  have := parseF_any awF1 75 rfl (fun t h => by rw [awf_par1] at h; injection h with h; subst h; exact awf_wt1) (some X) 75 (fun h => by cases h) W (hT.below h1) h2
  rw [awf_1] at this
  exact this.mono fun e w' hh => by
   obtain ⟨v, he, ho, hb⟩ := hh
   obtain ⟨A, c, rfl, hat⟩ := ho.feed
   exact ⟨A, c, he, hat, hb⟩
 have HP2 : Hid (∀ W X, Below w.heap.size w W → BytesAt W (some X) awF2 → Calls Tryz.prog 14 #[.slice (some X) 7 7] W fun e w' => ∃ A c, e = .returned (.tuple #[.agg #[.string ⟨#[]⟩, .string ⟨#[]⟩, .slice A 0 c], .int .i64 5]) ∧ Below W.heap.size W w') := fun W X h1 h2 => by
  have := parseF_any awF2 7 rfl (fun t h => by rw [awf_par2] at h; injection h with h; subst h; exact awf_wt2) (some X) 7 (fun h => by cases h) W (hT.below h1) h2
  rw [awf_2] at this
  exact this.mono fun e w' hh => by
   obtain ⟨v, he, ho, hb⟩ := hh
   obtain ⟨A, c, rfl, hat⟩ := ho.feed
   exact ⟨A, c, he, hb⟩
 have HID : Hid (∀ W, Below w.heap.size w W → Calls Tryz.prog 20 #[.string ⟨#[120]⟩, .string ⟨#[]⟩, .string ⟨#[]⟩] W fun e w' => e = .returned (.string (asS (idL [120] [] []))) ∧ Below W.heap.size W w') := fun W hb => refId_any [120] [] [] (by decide) (by decide) (by decide) W
 have hcv := Lib.run_convert_bytes_const (P := Tryz.prog) w 42 5 (bcs awF1) 75 75 Tryz.underlying42 Tryz.underlying5
 rw [show (bcs awF1).size = 75 from rfl] at hcv
 have HC2 := hid (fun W : World => Lib.run_convert_bytes_const (P := Tryz.prog) W 42 5 (bcs awF2) 7 7 Tryz.underlying42 Tryz.underlying5)
 rw [show (bcs awF2).size = 7 from rfl] at HC2
 have HB1 := hid (alloc_below (Below.refl w.heap.size w) (Nat.le_refl _) (.cells (bcs awF1) 5 (75, 76)))
 have HA1 := hid (row_ofC awF1 w (75, 76))
 have HA2 := hid (fun W : World => row_ofC awF2 W (7, 8))
 have hbc2 : bcs awF2 = #[.int .u8 60, .int .u8 104, .int .u8 116, .int .u8 109, .int .u8 108, .int .u8 47, .int .u8 62] := rfl
 rw [hbc2] at HC2 HA2
 have hbc : bcs awF1 = #[.int .u8 60, .int .u8 114, .int .u8 115, .int .u8 115, .int .u8 62, .int .u8 60, .int .u8 99, .int .u8 104, .int .u8 97, .int .u8 110, .int .u8 110, .int .u8 101, .int .u8 108, .int .u8 62, .int .u8 60, .int .u8 116, .int .u8 105, .int .u8 116, .int .u8 108, .int .u8 101, .int .u8 62, .int .u8 84, .int .u8 60, .int .u8 47, .int .u8 116, .int .u8 105, .int .u8 116, .int .u8 108, .int .u8 101, .int .u8 62, .int .u8 60, .int .u8 105, .int .u8 116, .int .u8 101, .int .u8 109, .int .u8 62, .int .u8 60, .int .u8 103, .int .u8 117, .int .u8 105, .int .u8 100, .int .u8 62, .int .u8 32, .int .u8 120, .int .u8 32, .int .u8 60, .int .u8 47, .int .u8 103, .int .u8 117, .int .u8 105, .int .u8 100, .int .u8 62, .int .u8 60, .int .u8 47, .int .u8 105, .int .u8 116, .int .u8 101, .int .u8 109, .int .u8 62, .int .u8 60, .int .u8 47, .int .u8 99, .int .u8 104, .int .u8 97, .int .u8 110, .int .u8 110, .int .u8 101, .int .u8 108, .int .u8 62, .int .u8 60, .int .u8 47, .int .u8 114, .int .u8 115, .int .u8 115, .int .u8 62] := rfl
 rw [hbc] at hcv HB1 HA1
 clear hT hbc hbc2
 go_enter Tryz.func8, Tryz.ntmps8
 go_wp2_with fail
 refine (HP1.out _ _ HB1.out HA1.out).mono ?_
 rintro e W1 ⟨A1, c1, rfl, hat1, hb1⟩
 have HAT1 := hid hat1
 have HB2 := hid (bel2 HB1.out hb1)
 have HZ2 := hid (heap_alloc_new W1 (.cells #[.string ⟨#[]⟩, .string ⟨#[]⟩, .slice none 0 0] 30))
 clear hat1 hb1 HB1 HA1 hcv HP1
 go_wp2_with (first
  | (refine wpList_store_abs rfl 30 (.tmp 1) (.tmp 9) rfl W1.heap.size 0 #[.string ⟨#[84]⟩, .string ⟨#[]⟩, .slice A1 1 c1] rfl rfl 30 _ HZ2.out (Nat.le_refl 3) infoF (fcs_any _ _ _ _ _) ?_; intro V hO hV; rw [over_whole #[.string ⟨#[]⟩, .string ⟨#[]⟩, .slice none 0 0] #[.string ⟨#[84]⟩, .string ⟨#[]⟩, .slice A1 1 c1] rfl] at hV; have hc2 := HC2.out V)
  | fail)
 have HBV1 := hid (((Below.refl W1.heap.size W1).alloc (Nat.le_refl _) (.cells #[.string ⟨#[]⟩, .string ⟨#[]⟩, .slice none 0 0] 30)).trans (hO.below (Nat.le_refl _)))
 have HBV := hid (bel2 HB2.out HBV1.out)
 have HRV := hid hV
 have HATV := hid (HAT1.out.below HBV1.out (Nat.le_refl _))
 have HB3 := hid (HBV.out.alloc HBV.out.size (.cells #[.int .u8 60, .int .u8 104, .int .u8 116, .int .u8 109, .int .u8 108, .int .u8 47, .int .u8 62] 5 (7, 8)))
 have HBC := hid ((Below.refl V.heap.size V).alloc (Nat.le_refl _) (.cells #[.int .u8 60, .int .u8 104, .int .u8 116, .int .u8 109, .int .u8 108, .int .u8 47, .int .u8 62] 5 (7, 8)))
 have HA3 := hid (HA2.out V)
 clear hO hV HZ2 HB2 HAT1 hc2 HC2 HA2 HBV1
 refine (HP2.out _ _ HB3.out HA3.out).mono ?_
 rintro e W2 ⟨A2, c2, rfl, hb2⟩
 have HB4 := hid (bel2 HBC.out hb2)
 have HR4 := hid (row_keep HB4.out HRV.out)
 have HAT4 := hid (HATV.out.below HB4.out (Nat.le_refl _))
 have HBW4 := hid (bel2 HBV.out HB4.out)
 have HZ4 := hid (heap_alloc_new W2 (.cells #[.string ⟨#[]⟩, .string ⟨#[]⟩, .slice none 0 0] 30))
 clear hb2 HB3 HBC HA3 HP2 HB4 HATV HRV HBV
 go_wp2_with (first
  | (refine wpList_store_abs rfl 30 (.tmp 3) (.tmp 15) rfl W2.heap.size 0 #[.string ⟨#[]⟩, .string ⟨#[]⟩, .slice A2 0 c2] rfl rfl 30 _ HZ4.out (Nat.le_refl 3) infoF (fcs_any _ _ _ _ _) ?_; intro V3 hO3 hV3)
  | fail)
 have hb5 := ((Below.refl W2.heap.size W2).alloc (Nat.le_refl _) (.cells #[.string ⟨#[]⟩, .string ⟨#[]⟩, .slice none 0 0] 30)).trans (hO3.below (Nat.le_refl _))
 have HR5 := hid (row_keep hb5 HR4.out)
 have HAT5 := hid (HAT4.out.below hb5 (Nat.le_refl _))
 have HB5 := hid (bel2 HBW4.out hb5)
 clear hb5 hO3 hV3 HR4 HAT4 HBW4 HZ4
 obtain ⟨q, o, hA, hq, hc⟩ := HAT5.out (by decide)
 subst hA
 have hcz := hc 0 0 (.string (asS (idL [120] [] []))) (by decide) rfl
 rw [Nat.zero_mul, Nat.add_zero] at hcz
 have f0 := cell_reF (cell_of_row _ _ 0 _ _ _ HR5.out)
 have f2 := cell_reF (cell_of_row _ _ 2 _ _ _ HR5.out)
 have f9 := cell_reF hcz
 have HIX := hid (HID.out V3 HB5.out)
 have c9 : ∀ d os, Calls Tryz.prog 20 #[.string ⟨#[120]⟩, .string ⟨#[]⟩, .string ⟨#[]⟩] (Sort.grow (redrawn V3 d) os) fun e w'' => e = .returned (.string (asS (idL [120] [] []))) ∧ ∃ p : Regrown, w'' = Sort.grow (redrawn V3 p.d) p.os := fun d os => Calls.regrown_of (refId_any [120] [] [] (by decide) (by decide) (by decide) _)
 generalize asS (idL [120] [] []) = ID at *
 have qi : (ID.toList == ID.toList) = true := by simp
 have q0 : ((⟨#[84]⟩ : ByteArray).toList == [84]) = true := by decide +kernel
 clear HIX HID hc hcz HAT5 hq HR5
 refine wp_region_quiet_below (by kernel_rfl) (by kernel_rfl) ?_
 repeat (go_big_quiet_step (first | (go_at_call 20; exact c9 _ _) | fail))
 refine wpQuiet_nil ?_
 rintro W9 ⟨⟨dq, osq⟩, hw9⟩
 have HB9 : Hid (Below V3.heap.size V3 W9) := by rw [hw9]; exact below_regrown V3 dq osq
 clear hw9 f0 f2 f9 c9
 go_wp2_with fail
 go_ret
 exact ⟨rfl, bel2 HB5.out HB9.out⟩
theorem place_all (s : ByteArray) : ∀ m b pos, pos ≤ s.size → s.size ≤ pos + b → Lib.runeCountFrom s b pos ≤ m → placeFrom s m pos = s.size
 | 0, b, pos, hp, hb, hm => by
  by_cases h : pos < s.size
  ·obtain ⟨b, rfl⟩ : ∃ b', b = b' + 1 := ⟨b - 1, by omega⟩
   simp only [Lib.runeCountFrom, h, if_true] at hm
   omega
  ·show pos = s.size
   omega
 | m + 1, b, pos, hp, hb, hm => by
  by_cases h : pos < s.size
  ·obtain ⟨b, rfl⟩ : ∃ b', b = b' + 1 := ⟨b - 1, by omega⟩
   simp only [Lib.runeCountFrom, h, if_true] at hm
   simp only [placeFrom, h, if_true]
   have hw := Lib.decode_width_pos s pos h
   exact place_all s m b _ (decode_fits s pos h) (by omega) (by omega)
  ·rw [placeFrom_end s _ pos h]
   omega
theorem headA_good (s : ByteArray) : vld (headA s 128) = true ∧ Lib.runeCount (headA s 128) ≤ 128 := by
 unfold headA
 split
 ·rename_i h
  refine ⟨head_vld s 128 h, ?_⟩
  by_cases hc : 128 ≤ Lib.runeCount s
  ·rw [head_count s 128 h hc]
   exact Nat.le_refl _
  ·rw [place_all s 128 s.size 0 (Nat.zero_le _) (by omega) (by unfold Lib.runeCount at hc; omega), extract_all s s.size (by omega)]
   omega
 ·exact ⟨by decide +kernel, by decide +kernel⟩
set_option maxHeartbeats 4000000 in
set_option maxRecDepth 100000 in
theorem short_light (s title body : List UInt8) (h1 : s.length ≤ 4000) (h2 : title.length ≤ 2000) (h3 : body.length ≤ 2000) (w : World) (hT : TabF w) : Calls Tryz.prog 5 #[.string (asS s), .string (asS title), .string (asS body)] w fun e w' => e = .returned (.bool true) ∧ Below w.heap.size w w' := by
 have hz1 : ¬ ((4000 : Int) < ((asS s).size : Int)) := by rw [asS_size]; omega
 have hz2 : ¬ ((2000 : Int) < ((asS title).size : Int)) := by rw [asS_size]; omega
 have hz3 : ¬ ((2000 : Int) < ((asS body).size : Int)) := by rw [asS_size]; omega
 have HSH := hid (fun W => short_any s (by omega) W)
 have HRS := hid (fun W => refShort_any s (by omega) W)
 obtain ⟨hv, hc⟩ := headA_good (sqzA (asS s))
 rw [← asS_sh] at hv hc
 have hsz : (asS (shL s)).size ≤ 1000000 := by rw [asS_size]; have := shL_len s; omega
 have hrl := runesOf_length (asS (shL s))
 have HRU := hid (fun W => runes_ok (asS (shL s)) W hsz hv)
 have HRL : Hid ((runesOf (asS (shL s))).length ≤ 128) := by show _ ≤ _; rw [hrl]; exact hc
 have HID := hid (fun W (h : TabS W) => id_any s title body (by omega) (by omega) (by omega) W h)
 have HRI := hid (fun W => refId_any s title body (by omega) (by omega) (by omega) W)
 have HAW := hid (fun W (h : TabF W) => awakeF W h)
 have HTT := hid (fun W (hb : Below w.heap.size w W) => hT.below hb)
 clear hv hc hsz hrl hT h1 h2 h3
 generalize runesOf (asS (shL s)) = RL at HRU HRL
 generalize asS (shL s) = SH at HSH HRS HRU
 generalize asS (idL s title body) = ID at HID HRI
 generalize asS s = S0 at *
 generalize asS title = S1 at *
 generalize asS body = S2 at *
 have q1 : (SH.toList == SH.toList) = true := by simp
 have q2 : (ID.toList == ID.toList) = true := by simp
 generalize hm : RL.length = m at HRU HRL
 have hm128 : ¬ ((128 : Int) < (m : Int)) := by have := HRL.out; omega
 have hm129 : (m : Int) ≤ 128 := by have := HRL.out; omega
 clear HRL hm
 go_enter Tryz.func5, Tryz.ntmps5
 go_wp2_with fail
 refine (HSH.out _).mono ?_
 rintro e W1 ⟨rfl, hb1⟩
 have HB1 := hid hb1
 clear hb1
 go_wp2_with fail
 refine (HRU.out _).mono ?_
 rintro e W2 ⟨v, rfl, hown, hb2⟩
 have hsh : ∃ A c, v = .slice A m c := by
  rcases hown.2 with ⟨hv, hn⟩ | ⟨g, cap, cur, hv, _⟩
  ·exact ⟨none, 0, by rw [hv, hn]⟩
  ·exact ⟨_, cap, hv⟩
 obtain ⟨A, c, rfl⟩ := hsh
 have HB2 := hid (bel2 HB1.out hb2)
 clear hown hb2 HB1
 go_wp2_with fail
 refine (HRS.out _).mono ?_
 rintro e W3 ⟨rfl, hb3⟩
 have HB3 := hid (bel2 HB2.out hb3)
 clear hb3
 go_wp2_with fail
 refine (HID.out _ (HTT.out _ HB3.out).s).mono ?_
 rintro e W4 ⟨rfl, hb4⟩
 have HB4 := hid (bel2 HB3.out hb4)
 clear hb4
 go_wp2_with fail
 refine (HRI.out _).mono ?_
 rintro e W5 ⟨rfl, hb5⟩
 have HB5 := hid (bel2 HB4.out hb5)
 clear hb5
 go_wp2_with fail
 refine (HAW.out _ (HTT.out _ HB5.out)).mono ?_
 rintro e W6 ⟨rfl, hb6⟩
 have HB6 := hid (bel2 HB5.out hb6)
 clear hb6
 go_wp2_with fail
 go_ret
 exact ⟨rfl, HB6.out⟩
set_option maxHeartbeats 4000000 in
set_option maxRecDepth 100000 in
theorem short_long (s title body : ByteArray) (h : (4000 : Int) < (s.size : Int) ∨ (2000 : Int) < (title.size : Int) ∨ (2000 : Int) < (body.size : Int)) (w : World) (hT : TabF w) : Calls Tryz.prog 5 #[.string s, .string title, .string body] w fun e w' => e = .returned (.bool true) ∧ Below w.heap.size w w' := by
 have HAW := hid (awakeF w hT)
 clear hT
 by_cases h1 : (4000 : Int) < (s.size : Int)
 ·clear h
  go_enter Tryz.func5, Tryz.ntmps5
  go_wp2_with fail
  refine HAW.out.mono ?_
  rintro e W1 ⟨rfl, hb1⟩
  go_wp2_with fail
  go_ret
  exact ⟨rfl, hb1⟩
 ·by_cases h2 : (2000 : Int) < (title.size : Int)
  ·clear h
   go_enter Tryz.func5, Tryz.ntmps5
   go_wp2_with fail
   refine HAW.out.mono ?_
   rintro e W1 ⟨rfl, hb1⟩
   go_wp2_with fail
   go_ret
   exact ⟨rfl, hb1⟩
  ·have h3 : (2000 : Int) < (body.size : Int) := by rcases h with h | h | h; exact absurd h h1; exact absurd h h2; exact h
   clear h
   go_enter Tryz.func5, Tryz.ntmps5
   go_wp2_with fail
   refine HAW.out.mono ?_
   rintro e W1 ⟨rfl, hb1⟩
   go_wp2_with fail
   go_ret
   exact ⟨rfl, hb1⟩
theorem feedShort_law (s title body : ByteArray) (w : World) (hT : TabF w) : Calls Tryz.prog 5 #[.string s, .string title, .string body] w fun e w' => e = .returned (.bool true) ∧ Below w.heap.size w w' := by
 by_cases h1 : (4000 : Int) < (s.size : Int)
 ·exact short_long s title body (.inl h1) w hT
 ·by_cases h2 : (2000 : Int) < (title.size : Int)
  ·exact short_long s title body (.inr (.inl h2)) w hT
  ·by_cases h3 : (2000 : Int) < (body.size : Int)
   ·exact short_long s title body (.inr (.inr h3)) w hT
   ·have e1 := ba_len s
    have e2 := ba_len title
    have e3 := ba_len body
    have := short_light s.data.toList title.data.toList body.data.toList (by omega) (by omega) (by omega) w hT
    rw [asS_of, asS_of, asS_of] at this
    exact this
end Go.Proofs.YtgoiafndapemjaaGreatDoor
