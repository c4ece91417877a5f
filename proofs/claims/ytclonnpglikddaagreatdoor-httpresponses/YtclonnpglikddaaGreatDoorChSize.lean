
/- How many bytes a line says there are: what Size of package chunk does. -/
import Derived.Test.YtclonnpglikddaaGreatDoorChPU
import Derived.Test.YtclonnpglikddaaGreatDoorChAny
import Derived.Test.YtclonnpglikddaaGreatDoorHtTab
import Derived.Lib.IfaceEq
namespace Go.Proofs.YtclonnpglikddaaGreatDoor
set_option linter.unusedVariables false
set_option linter.unusedSimpArgs false
open Go.RowKit Go.BigFrame

set_option maxRecDepth 100000 in
theorem pu_nil (w : World) : Calls Tryz.prog 130 #[.string (asS []), .int .i64 16, .int .i64 32] w fun e w' => e = .returned (.tuple #[.int .u64 0, .iface 159 (.int .i64 2)]) ∧ Below w.heap.size w w' := by
  have hemp : (asS []).toList.isEmpty = true := by rw [emp8]; rfl
  generalize asS [] = D at hemp ⊢
  go_enter Tryz.func130, Tryz.ntmps130
  go_wp2_with fail
  go_ret2
  exact ⟨rfl, Below.refl _ _⟩
theorem pu_err (d : List UInt8) (h8 : d.length ≤ 8) (h : d = [] ∨ d.all isHx = false) (w : World) : Calls Tryz.prog 130 #[.string (asS d), .int .i64 16, .int .i64 32] w fun e w' => e = .returned (.tuple #[.int .u64 0, .iface 159 (.int .i64 2)]) ∧ Below w.heap.size w w' := by
  by_cases hd : d = []
  · subst hd; exact pu_nil w
  · have hh : d.all isHx = false := by
      rcases h with h | h
      · exact absurd h hd
      · exact h
    have := pu_in d hd h8 w
    rw [hh] at this
    exact this
theorem pub_ok (d : List UInt8) (h8 : d.length ≤ 8) (hd : d ≠ []) (hh : d.all isHx = true) (w : World) : Calls Tryz.prog 100 #[.string (asS d), .int .i64 16, .int .i64 32] w fun e w' => e = .returned (.tuple #[.int .u64 (valC d : Int), .nilIface]) ∧ Below w.heap.size w w' := by
  have c := pu_in d hd h8 w
  rw [hh] at c
  simp only [if_true] at c
  have HC := hid c
  clear c
  generalize asS d = D at HC ⊢
  generalize valC d = v at HC ⊢
  go_enter Tryz.func100, Tryz.ntmps100
  go_wp2_with fail
  refine HC.out.mono ?_
  rintro e W1 ⟨rfl, hb⟩
  have HB := hid hb
  clear hb
  go_wp2_with fail
  go_ret2
  exact ⟨rfl, HB.out⟩
theorem toErr_any (s : ByteArray) (hs : s.size ≤ 281474976710656) (w : World) (hT : TabC w) : Calls Tryz.prog 131 #[.string ⟨#[80, 97, 114, 115, 101, 85, 105, 110, 116]⟩, .string s, .int .i64 16, .int .i64 32, .iface 159 (.int .i64 2)] w fun e w' => ∃ t p, e = .returned (.iface t p) ∧ Below w.heap.size w w' := by
  obtain ⟨te, pe, hv⟩ := hT.syn
  have HC := hid (Tryz.strconv_syntaxError ⟨#[80, 97, 114, 115, 101, 85, 105, 110, 116]⟩ s _ w hs hv (.inr ⟨te, pe, rfl⟩))
  have heq : ∀ W, (binOp .eql 120 (.iface 159 (.int .i64 2)) (.iface 159 (.int .i64 2))).run Tryz.prog W = .ok (.bool true) W := fun W => Lib.run_eql_iface_int W 2 2 Tryz.underlying120 (by kernel_rfl) Tryz.underlying159
  clear hT hv hs
  go_enter Tryz.func131, Tryz.ntmps131
  go_wp2_with fail
  refine HC.out.mono ?_
  rintro e W1 ⟨N, rfl, _, _, hb⟩
  have HB := hid hb
  clear hb
  go_wp2_with fail
  go_ret
  exact ⟨_, _, rfl, HB.out⟩
theorem pub_err (d : List UInt8) (h8 : d.length ≤ 8) (h : d = [] ∨ d.all isHx = false) (w : World) (hT : TabC w) : Calls Tryz.prog 100 #[.string (asS d), .int .i64 16, .int .i64 32] w fun e w' => ∃ t p, e = .returned (.tuple #[.int .u64 0, .iface t p]) ∧ Below w.heap.size w w' := by
  have HC := hid (pu_err d h8 h w)
  have HT := hid hT
  have hs : (asS d).size ≤ 281474976710656 := by rw [asS_size]; omega
  have HTE := hid (fun W hW => toErr_any (asS d) hs W hW)
  clear hT hs
  generalize asS d = D at HC HTE ⊢
  go_enter Tryz.func100, Tryz.ntmps100
  go_wp2_with fail
  refine HC.out.mono ?_
  rintro e W1 ⟨rfl, hb⟩
  have HB := hid hb
  clear hb
  go_wp2_with fail
  refine (HTE.out _ (HT.out.below HB.out)).mono ?_
  rintro e W2 ⟨t, p, rfl, hb2⟩
  have HB2 := hid (HB.out.trans (hb2.mono HB.out.size))
  clear hb2
  go_wp2_with fail
  go_ret2
  exact ⟨t, p, rfl, HB2.out⟩
theorem cut59_any (l : List UInt8) (hl : l.length ≤ 1000000) (w : World) (hT : TabS w) : Calls Tryz.prog 77 #[.string (asS l), .string ⟨#[59]⟩] w fun e w' => e = .returned (.tuple #[.string (asS (Lib.cut l [59]).1), .string (asS (Lib.cut l [59]).2.1), .bool (Lib.cut l [59]).2.2]) ∧ Below w.heap.size w w' := by
  obtain ⟨m, hm⟩ := hT.max
  refine (Tryz.strings_Cut (asS l) ⟨#[59]⟩ m w (by rw [asS_size]; omega) hm).mono ?_
  rintro e w' ⟨rfl, n, rfl⟩
  exact ⟨rfl, below_drewN _ _ _⟩
theorem szP_neg {s d : List UInt8} (hd : DigsC s d) (h : 256 < s.length ∨ 8 < d.length ∨ endsIn s = true ∨ d = [] ∨ d.all isHx = false) : szP s = -1 := by
  unfold szP
  by_cases h10 : (10 : UInt8) ∈ s
  · rw [if_pos h10]
  · rw [if_neg h10, hd.size]
    refine if_pos ?_
    rcases h with h | h | h | h | h
    · exact .inl h
    · exact .inr (.inr (.inr (.inl h)))
    · rcases of_decide_eq_true h with h | h
      · exact .inr (.inl h)
      · exact absurd h h10
    · exact .inr (.inr (.inl (by rw [h]; decide)))
    · exact .inr (.inr (.inr (.inr h)))
theorem szP_pos {s d : List UInt8} (hd : DigsC s d) (h1 : ¬ 256 < s.length) (h2 : ¬ 8 < d.length) (h3 : endsIn s = false) (h4 : d ≠ []) (h5 : d.all isHx = true) : szP s = (valC d : Int) := by
  have h3' := of_decide_eq_false h3
  unfold szP
  rw [if_neg (fun h => h3' (.inr h)), hd.size]
  refine if_neg ?_
  rintro (h | h | h | h | h)
  · exact h1 h
  · exact h3' (.inl h)
  · exact h4 (List.length_eq_zero_iff.1 (by omega))
  · exact h2 h
  · rw [h5] at h; cases h
set_option maxHeartbeats 2000000 in
set_option maxRecDepth 100000 in
theorem size_any (s : List UInt8) (hs : s.length ≤ 1000000) (w : World) (hT : TabC w) : Calls Tryz.prog 122 #[.string (asS s)] w fun e w' => e = .returned (.tuple (if szP s < 0 then #[.int .i64 0, .int .i64 5] else #[.int .i64 (szP s), .int .i64 0])) ∧ Below w.heap.size w w' := by
  obtain ⟨d, hd⟩ := digs_of s
  have HC := hid (fun W hW => cut59_any s hs W hW)
  rw [hd.cut] at HC
  have HN := hid (szP_neg hd)
  have HPO := hid (szP_pos hd)
  have HT := hid hT
  have HCA := hid (fun W => contains_ends s hs W)
  have HOK := hid (fun h8 => pub_ok d h8)
  have HER := hid (fun h8 => pub_err d h8)
  have HSM : Hid (d.length ≤ 8 → d.all isHx = true → valC d < 4294967296) := fun h1 h2 => val_small d h2 h1
  have hsz := asS_size s
  have hdz := asS_size d
  obtain ⟨R, hR⟩ : ∃ R, R = (if szP s < 0 then (#[.int .i64 0, .int .i64 5] : Array Value) else #[.int .i64 (szP s), .int .i64 0]) := ⟨_, rfl⟩
  rw [← hR]
  have HRN : Hid (szP s = -1 → R = #[.int .i64 0, .int .i64 5]) := fun h => by rw [hR, h]; rfl
  have HRP : Hid (∀ v : Nat, szP s = (v : Int) → R = #[.int .i64 v, .int .i64 0]) := fun v h => by rw [hR, h, if_neg (by omega)]
  rw [← hsz] at HN HPO
  rw [← hdz] at HN HPO HOK HER HSM
  generalize szP s = Z at HN HPO HRN HRP
  generalize endsIn s = en at HN HPO HCA
  generalize asS s = S at HC HCA HN HPO hsz ⊢
  generalize asS d = D at HC HOK HER HN HPO hdz HSM
  generalize asS (Lib.cut s [59]).2.1 = D2 at HC
  generalize (Lib.cut s [59]).2.2 = b2 at HC
  clear hT hs hd hR hsz hdz
  by_cases h1 : 256 < S.size
  · have HRE := hid (HRN.out (HN.out (.inl h1)))
    have h1i : (256 : Int) < (S.size : Int) := by omega
    go_enter Tryz.func122, Tryz.ntmps122
    go_wp2_with fail
    refine (HC.out _ HT.out.tab).mono ?_
    rintro e W1 ⟨rfl, hb⟩
    have HB := hid hb
    clear hb
    go_wp2_with fail
    go_ret2
    exact ⟨by rw [HRE.out]; rfl, HB.out⟩
  · have h1i : ¬ (256 : Int) < (S.size : Int) := by omega
    by_cases h2 : 8 < D.size
    · have HRE := hid (HRN.out (HN.out (.inr (.inl h2))))
      have h2i : (8 : Int) < (D.size : Int) := by omega
      go_enter Tryz.func122, Tryz.ntmps122
      go_wp2_with fail
      refine (HC.out _ HT.out.tab).mono ?_
      rintro e W1 ⟨rfl, hb⟩
      have HB := hid hb
      clear hb
      go_wp2_with fail
      go_ret2
      exact ⟨by rw [HRE.out]; rfl, HB.out⟩
    · have h2i : ¬ (8 : Int) < (D.size : Int) := by omega
      cases en
      · by_cases h4 : d = [] ∨ d.all isHx = false
        · have HRE : Hid (R = #[.int .i64 0, .int .i64 5]) := HRN.out (HN.out (by
            rcases h4 with h | h
            · exact .inr (.inr (.inr (.inl h)))
            · exact .inr (.inr (.inr (.inr h)))))
          have HE := hid (fun W hW => HER.out (by omega) h4 W hW)
          clear h4
          go_enter Tryz.func122, Tryz.ntmps122
          go_wp2_with fail
          refine (HC.out _ HT.out.tab).mono ?_
          rintro e W1 ⟨rfl, hb⟩
          have HB := hid hb
          clear hb
          go_wp2_with fail
          refine (HCA.out _).mono ?_
          rintro e W2 ⟨rfl, hb⟩
          have HB2 := hid (HB.out.trans (hb.mono HB.out.size))
          clear hb
          go_wp2_with fail
          refine (HE.out _ (HT.out.below HB2.out)).mono ?_
          rintro e W3 ⟨t, p, rfl, hb⟩
          have HB3 := hid (HB2.out.trans (hb.mono HB2.out.size))
          clear hb
          go_wp2_with fail
          go_ret2
          exact ⟨by rw [HRE.out]; rfl, HB3.out⟩
        · have h5 : d ≠ [] := fun h => h4 (.inl h)
          have h6 : d.all isHx = true := by
            cases hh : d.all isHx with
            | true => rfl
            | false => exact absurd (.inr hh) h4
          have hv := HSM.out (by omega) h6
          have HRE := hid (HRP.out _ (HPO.out h1 h2 rfl h5 h6))
          have HE := hid (fun W => HOK.out (by omega) h5 h6 W)
          clear h4 h5 h6
          generalize valC d = v at HRE HE hv
          have hv2 : (v : Int) ≤ 4294967295 := by omega
          clear hv
          go_enter Tryz.func122, Tryz.ntmps122
          go_wp2_with fail
          refine (HC.out _ HT.out.tab).mono ?_
          rintro e W1 ⟨rfl, hb⟩
          have HB := hid hb
          clear hb
          go_wp2_with fail
          refine (HCA.out _).mono ?_
          rintro e W2 ⟨rfl, hb⟩
          have HB2 := hid (HB.out.trans (hb.mono HB.out.size))
          clear hb
          go_wp2_with fail
          refine (HE.out _).mono ?_
          rintro e W3 ⟨rfl, hb⟩
          have HB3 := hid (HB2.out.trans (hb.mono HB2.out.size))
          clear hb
          go_wp2_with fail
          go_ret2
          exact ⟨by rw [HRE.out]; rfl, HB3.out⟩
      · have HRE := hid (HRN.out (HN.out (.inr (.inr (.inl rfl)))))
        go_enter Tryz.func122, Tryz.ntmps122
        go_wp2_with fail
        refine (HC.out _ HT.out.tab).mono ?_
        rintro e W1 ⟨rfl, hb⟩
        have HB := hid hb
        clear hb
        go_wp2_with fail
        refine (HCA.out _).mono ?_
        rintro e W2 ⟨rfl, hb⟩
        have HB2 := hid (HB.out.trans (hb.mono HB.out.size))
        clear hb
        go_wp2_with fail
        go_ret2
        exact ⟨by rw [HRE.out]; rfl, HB2.out⟩
end Go.Proofs.YtclonnpglikddaaGreatDoor
