
/- What url.Unescape does, and the reference's. -/
import Derived.Test.YtlblefcmilfjdaaGreatDoorUrBld
namespace Go.Proofs.YtlblefcmilfjdaaGreatDoor
set_option linter.unusedVariables false
set_option linter.unusedSimpArgs false
open Go.RowKit Go.BigFrame

theorem unesc_37 (t : List UInt8) : unescU (37 :: t) = match escV (37 :: t) with
    | some v => (unescU (t.drop 2)).map (v :: ·)
    | none => none := by
  match t with
  | [] => rfl
  | [_] => rfl
  | a :: b :: r =>
    rw [unesc_hex]
    show _ = (match (if hexU a && hexU b then some (UInt8.ofNat (hexV a * 16 + hexV b)) else none) with
      | some v => (unescU r).map (v :: ·)
      | none => none)
    cases hexU a && hexU b <;> rfl
def unN (o : Option (List UInt8)) : Int := if o.isSome then 0 else 5
def unR (v : Value) : Nat := match v with
  | .string b => b.size
  | _ => 0
theorem map_step (o : List UInt8) (v : UInt8) (x : Option (List UInt8)) : (x.map (v :: ·)).map (o ++ ·) = x.map ((o ++ [v]) ++ ·) := by
  cases x with
  | none => rfl
  | some y => simp
theorem ix_zero (c : UInt8) (t : List UInt8) (W : World) : (Instr.index 9 (.string (asS (c :: t))) (.int .i64 0)).run Tryz.prog W = .ok (.int .u8 c.toNat) W := str_ix (asS (c :: t)) 0 (by rw [asS_size]; simp) W
set_option maxHeartbeats 4000000 in
set_option maxRecDepth 100000 in
theorem unescape_any (l : List UInt8) (hl : l.length ≤ 100000) (w : World) : Calls Tryz.prog 45 #[.string (asS l)] w fun e w' => e = .returned (.tuple #[.string (asS ((unescU l).getD [])), .int .i64 (unN (unescU l))]) ∧ Below w.heap.size w w' := by
  have HU0 : Hid (unescU l = (unescU l).map ([] ++ ·)) := by show _ = _; cases unescU l <;> simp
  generalize hR : unescU l = R at HU0 ⊢
  have HU1 : Hid (R = (unescU l).map ([] ++ ·)) := by show _ = _; rw [hR]; exact HU0.out
  clear hR HU0
  have HES : Hid (∀ r : List UInt8, r.length ≤ 100000 → ∀ W, Calls Tryz.prog 73 #[.string (asS r)] W fun e w' => e = .returned (.tuple #[.int .u8 (escN (escV r)), .bool (escV r).isSome]) ∧ Below W.heap.size W w') := fun r hr W => escaped_any (asS r) (by rw [asS_size]; omega) W
  have HWB := hid (fun o c W h h1 h2 => writeByte_any w.heap.size w.heap.size o c W h h1 h2)
  have HST := hid (fun o W h h2 => bstr_any w.heap.size w.heap.size o W h h2)
  have HEF := hid ext_from
  have HIX := hid ix_zero
  go_enter Tryz.func45, Tryz.ntmps45
  go_wp2_with (first
    | (refine wpList_built rfl 62 _ rfl #[.pointer none, .slice none 0 0] built_bld ?_)
    | (refine store_bld rfl _ _ rfl w.heap.size rfl rfl _ (heap_alloc_new w _) rfl ?_)
    | fail)
  intro W0 hO0 hW0
  have HD0 : Hid (Bd w.heap.size w.heap.size [] W0) := Bd.row (Nat.le_refl _) hW0
  have HB0 : Hid (Below w.heap.size w W0) := (alloc_below (Below.refl _ w) (Nat.le_refl _) _).trans (hO0.below (Nat.le_refl _))
  clear hO0 hW0
  go_wp2_with fail
  go_loopw [0] (fun v wr => ∃ r o : List UInt8, v = .string (asS r) ∧ o.length + r.length ≤ 100000 ∧ Hid (Bd w.heap.size w.heap.size o wr) ∧ Hid (R = (unescU r).map (o ++ ·)) ∧ Hid (Below w.heap.size w wr)) (fun v _ => unR v)
  case atStart => exact ⟨l, [], rfl, by simpa using hl, HD0, HU1, HB0⟩
  case round =>
    obtain ⟨r, o, rfl, hlen, HD, HU, HB⟩ := hrel
    have zB := HB.out.size
    match r with
    | [] =>
      have hsz : ¬ (0 : Int) < ((asS []).size : Int) := by rw [asS_size]; simp
      have HQ : Hid (R = some o) := by show _ = _; rw [HU.out]; simp [unescU]
      generalize asS [] = S at hsz ⊢
      go_wp2_with fail
      refine (HST.out o _ HD.out zB).mono ?_
      rintro e W2 ⟨rfl, hb2⟩
      have HB2 := hid (HB.out.trans hb2)
      clear hb2
      go_wp2_with fail
      go_ret2
      exact ⟨by rw [HQ.out]; rfl, HB2.out⟩
    | c :: t =>
      have hsz : (0 : Int) < ((asS (c :: t)).size : Int) := by rw [asS_size]; simp
      have hix := HIX.out c t
      simp only [List.length_cons] at hlen
      by_cases hc : c = 37
      · subst hc
        have HE := hid (HES.out (37 :: t) (by simp; omega))
        have HU2 := unesc_37 t
        cases hv : escV (37 :: t) with
        | none =>
          rw [hv] at HE HU2
          have HQ : Hid (R = none) := by show _ = _; rw [HU.out, HU2]; rfl
          clear hv HU2
          generalize asS (37 :: t) = S at hsz hix HE ⊢
          go_wp2_with fail
          refine (HE.out _).mono ?_
          rintro e W1 ⟨rfl, hb1⟩
          have HB1 := hid (HB.out.trans (hb1.mono HB.out.size))
          clear hb1
          go_wp2_with fail
          go_ret2
          exact ⟨by rw [HQ.out]; rfl, HB1.out⟩
        | some v =>
          rw [hv] at HE HU2
          have h2l : 2 ≤ t.length := by
            rcases Nat.lt_or_ge t.length 2 with h | h
            · rw [escV_short (37 :: t) (by simp; omega)] at hv; cases hv
            · exact h
          have hE3 : (asS (37 :: t)).extract 3 (asS (37 :: t)).size = asS (t.drop 2) := HEF.out (37 :: t) 3
          have hs3 : (3 : Int) ≤ ((asS (37 :: t)).size : Int) := by rw [asS_size]; simp; omega
          have HM : Hid (unR (.string (asS (t.drop 2))) < unR (.string (asS (37 :: t)))) := by show (asS (t.drop 2)).size < (asS (37 :: t)).size; rw [asS_size, asS_size]; simp; omega
          have HQ : Hid (R = (unescU (t.drop 2)).map ((o ++ [v]) ++ ·)) := by show _ = _; rw [HU.out, HU2]; exact map_step o v _
          have hdl : (t.drop 2).length + 2 = t.length := by rw [List.length_drop]; omega
          clear hv HU2
          generalize asS (37 :: t) = S at hsz hix HE hE3 hs3 HM ⊢
          generalize t.drop 2 = t2 at hE3 HM HQ hdl
          go_wp2_with fail
          refine (HE.out _).mono ?_
          rintro e W1 ⟨rfl, hb1⟩
          have HB1 := hid (HB.out.trans (hb1.mono HB.out.size))
          have HD1 := hid (HD.out.below hb1)
          clear hb1
          have hcv : escN (some v) = (v.toNat : Int) := rfl
          rw [hcv]
          go_wp2_with fail
          refine (HWB.out o v _ HD1.out (by omega) HB1.out.size).mono ?_
          rintro e W2 ⟨rfl, hd2, hb2⟩
          have HB2 := hid (HB1.out.trans hb2)
          have HD2 := hid hd2
          clear hb2 hd2
          go_wp2_with fail
          go_roundw
          case rel => exact ⟨t2, o ++ [v], rfl, by simp; omega, HD2, HQ, HB2⟩
          case measure => exact HM.out
      · have hne : ¬ (c.toNat : Int) = 37 := fun h => hc (UInt8.toNat_inj.1 (by show c.toNat = 37; omega))
        have hE1 : (asS (c :: t)).extract 1 (asS (c :: t)).size = asS t := HEF.out (c :: t) 1
        have hs1 : (1 : Int) ≤ ((asS (c :: t)).size : Int) := by rw [asS_size]; simp; omega
        have HM : Hid (unR (.string (asS t)) < unR (.string (asS (c :: t)))) := by show (asS t).size < (asS (c :: t)).size; rw [asS_size, asS_size]; simp
        have HQ : Hid (R = (unescU t).map ((o ++ [c]) ++ ·)) := by show _ = _; rw [HU.out, unesc_cons c t hc]; exact map_step o c _
        clear hc
        generalize asS (c :: t) = S at hsz hix hE1 hs1 HM ⊢
        go_wp2_with fail
        refine (HWB.out o c _ HD.out (by omega) HB.out.size).mono ?_
        rintro e W2 ⟨rfl, hd2, hb2⟩
        have HB2 := hid (HB.out.trans hb2)
        have HD2 := hid hd2
        clear hb2 hd2
        go_wp2_with fail
        go_roundw
        case rel => exact ⟨t, o ++ [c], rfl, by simp; omega, HD2, HQ, HB2⟩
        case measure => exact HM.out

/-! The reference's. -/
theorem refUnhex_two (a b : UInt8) (w : World) : Calls Tryz.prog 52 #[.string (asS [a, b])] w fun e w' => Below w.heap.size w w' ∧
    (((hexU a && hexU b) = true ∧ ∃ g c, e = .returned (.tuple #[.slice (some ⟨g, 0, none⟩) 1 c, .bool true]) ∧ (convert 54 9 (.slice (some ⟨g, 0, none⟩) 1 c)).run Tryz.prog w' = .ok (.string (asS [UInt8.ofNat (hexV a * 16 + hexV b)])) w') ∨
     ((hexU a && hexU b) = false ∧ e = .returned (.tuple #[.slice none 0 0, .bool false]))) := by
  refine (refUnhex_any (asS [a, b]) w (by show 2 ≤ 1000000; omega)).mono ?_
  rintro e w' ⟨hb, h⟩
  refine ⟨hb, ?_⟩
  rcases h with ⟨n, g, c, hn, hok, rfl, hown⟩ | ⟨hbad, rfl⟩
  · have h2 : (asS [a, b]).size = 2 := rfl
    obtain rfl : n = 1 := by omega
    have h3 := (ok_two a b).1 (hok 0 (by omega))
    refine .inl ⟨h3, g, c, rfl, ?_⟩
    rw [show (asS [a, b]).data.toList = [a, b] from rfl, un_two a b h3] at hown
    exact str_of c (own_cells hown) 1 rfl
  · refine .inr ⟨?_, rfl⟩
    rcases hbad with h1 | ⟨j, hj, h1⟩
    · exact absurd h1 (by show ¬ 2 % 2 = 1; omega)
    · have h2 : (asS [a, b]).size = 2 := rfl
      obtain rfl : j = 0 := by omega
      cases hx : (hexU a && hexU b) with
      | false => rfl
      | true => exact absurd ((ok_two a b).2 hx) h1
theorem slice_run (S : ByteArray) (a b : Nat) (i j : Int) (hi : i = (a : Int)) (hj : j = (b : Int)) (h1 : a ≤ b) (h2 : b ≤ S.size) (x : ByteArray) (hx : S.extract a b = x) (W : World) : (Instr.slice 9 (.string S) (some (.int .i64 i)) (some (.int .i64 j)) none).run Tryz.prog W = .ok (.string x) W := by
  subst hi; subst hj; subst hx
  rw [run_slice_string W 9 S .i64 .i64 a b Tryz.underlying9 (by omega) (by omega) (by omega)]
  simp
theorem cat_size (o x : List UInt8) (h : o.length + x.length ≤ 1000000) : ¬ (9223372036854775807 < (asS o).size + (asS x).size) := by rw [asS_size, asS_size]; omega
end Go.Proofs.YtlblefcmilfjdaaGreatDoor
