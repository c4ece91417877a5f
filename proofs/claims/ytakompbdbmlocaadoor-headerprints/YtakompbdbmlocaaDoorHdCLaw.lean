
/- Of a beginning of headers more is to come: the statement's walk. -/
import Derived.Test.YtakompbdbmlocaaDoorHdPLaw
import Derived.Test.YtakompbdbmlocaaDoorHdPri
import Derived.OpenShut
namespace Go.Proofs.YtakompbdbmlocaaDoor
set_option linter.unusedVariables false
set_option linter.unusedSimpArgs false
open Go.RowKit Go.BigFrame

theorem size_two (l : List HdV) : 2 ≤ sizeH l := by have := body_len l; omega
set_option maxHeartbeats 1000000 in
set_option maxRecDepth 100000 in
theorem cuts9_law (l : List HdV) (A : Option Addr) (c : Nat) (hf : FitH l) (cut : Int) (w : World) (hA : HdsAt w A l) (hcut : (Lit.int .u16 cut).wf = true) (hT : TabS w) : Calls Tryd.prog 5 #[.slice A l.length c, .int .u16 cut] w fun e w' => e = .returned (.bool true) ∧ Below w.heap.size w w' := by
  have HT := hid hT
  have HA := hid hA
  have HAW := hid (fun W hW => awake9 W hW)
  have HLI := hid (light_any l A c hf w hA)
  have hb := Go.bounds_u16 hcut
  have hc0 := hb.1
  have hc1 := hb.2
  clear hT hA hcut hb
  cases hli : lightH l with
  | false =>
    rw [hli] at HLI
    generalize l.length = n at HLI ⊢
    clear hli hf
    go_enter Tryd.func5, Tryd.ntmps5
    go_wp2_with fail
    refine HLI.out.mono ?_
    rintro e W1 ⟨rfl, hb1⟩
    have HB1 := hid hb1
    clear hb1 HLI
    go_wp2_with fail
    refine (HAW.out _ (HT.out.below HB1.out)).mono ?_
    rintro e W2 ⟨rfl, hb2⟩
    have HB2 := hid (HB1.out.trans (hb2.mono HB1.out.size))
    clear hb2
    go_wp2_with fail
    go_ret
    exact ⟨rfl, HB2.out⟩
  | true =>
    rw [hli] at HLI
    obtain ⟨hl1, hl2⟩ := light_fit l hli
    have HRC := hid (fun W hW => refCheck_any l A c hl1 hl2 W hW)
    by_cases hck : checkH l = 0
    · have HPR := hid (fun W hW => print9_ok l A c hl1 hl2 hck W hW)
      rw [hck] at HRC
      have h2 := size_two l
      have HPL : Hid ((printH l).length = sizeH l) := print_size l
      have HCP : Hid (∀ k, k < sizeH l → parseH ((printH l).take k) = ([], 0, 10)) := fun k hk => cut_parse l hck k (by rw [print_size]; exact hk)
      generalize printH l = PR at HPR HPL HCP
      generalize sizeH l = sz at HPR h2 hl2 HPL HCP
      obtain ⟨kc, rfl⟩ : ∃ kc : Nat, cut = (kc : Int) := ⟨cut.toNat, by omega⟩
      have hmod : Int.tmod (kc : Int) (sz : Int) = ((kc % sz : Nat) : Int) := rfl
      have hlt : kc % sz < sz := Nat.mod_lt _ (by omega)
      have HPA : Hid (∀ X cap W, kc % sz ≤ cap → TabS W → BytesAt W (some X) (PR.take (kc % sz)) → Calls Tryd.prog 12 #[.slice (some X) (kc % sz) cap] W fun e w' => ∃ v, e = .returned (.tuple #[v, .int .i64 0, .int .i64 10]) ∧ HdsV w' v [] ∧ Below W.heap.size W w') := fun X cap W h1 h2 h3 => by
        have hlen : (PR.take (kc % sz)).length = kc % sz := by rw [List.length_take, HPL.out]; omega
        have := parse9_any (PR.take (kc % sz)) X cap (by omega) (by omega) W h2 h3
        rw [HCP.out _ hlt, hlen] at this
        exact this
      generalize kc % sz = m at hmod hlt HPA
      have hm0 : (0 : Int) ≤ (m : Int) := by omega
      have hz0 : ((sz : Int) == 0) = false := by rw [beq_eq_false_iff_ne]; omega
      have hz1 : ¬ (sz : Int) = 0 := by omega
      generalize l.length = n at HLI HRC HPR ⊢
      clear hli hf hl1 hck HCP
      go_enter Tryd.func5, Tryd.ntmps5
      go_wp2_with fail
      refine HLI.out.mono ?_
      rintro e W1 ⟨rfl, hb1⟩
      have HB1 := hid hb1
      clear hb1 HLI
      go_wp2_with fail
      refine (HRC.out _ (HA.out.below HB1.out (Nat.le_refl _))).mono ?_
      rintro e W2 ⟨rfl, hb2⟩
      have HB2 := hid (HB1.out.trans (hb2.mono HB1.out.size))
      clear hb2
      go_wp2_with fail
      refine (HPR.out _ (HA.out.below HB2.out (Nat.le_refl _))).mono ?_
      rintro e W3 ⟨g, cap, rfl, hown, hb3⟩
      have HB3 := hid (HB2.out.trans (hb3.mono HB2.out.size))
      have hcap := hown.le
      have HBY := hid (hown.bytes.take m)
      have hmc : (m : Int) ≤ (cap : Int) := by omega
      clear hb3 hown
      go_wp2_with fail
      refine (HPA.out _ cap _ (by omega) (HT.out.below HB3.out) HBY.out).mono ?_
      rintro e W4 ⟨v, rfl, hv, hb4⟩
      have HB4 := hid (HB3.out.trans (hb4.mono HB3.out.size))
      clear hb4 hv
      go_wp2_with fail
      refine (HAW.out _ (HT.out.below HB4.out)).mono ?_
      rintro e W5 ⟨rfl, hb5⟩
      have HB5 := hid (HB4.out.trans (hb5.mono HB4.out.size))
      clear hb5
      go_wp2_with fail
      go_ret
      exact ⟨rfl, HB5.out⟩
    · have hne : (checkH l == 0) = false := by rw [beq_eq_false_iff_ne]; exact hck
      have hne2 : (checkH l != 0) = true := by rw [bne, hne]; rfl
      generalize checkH l = E at HRC hne hne2
      generalize l.length = n at HLI HRC ⊢
      clear hli hf hl1 hl2 hck
      go_enter Tryd.func5, Tryd.ntmps5
      go_wp2_with fail
      refine HLI.out.mono ?_
      rintro e W1 ⟨rfl, hb1⟩
      have HB1 := hid hb1
      clear hb1 HLI
      go_wp2_with fail
      refine (HRC.out _ (HA.out.below HB1.out (Nat.le_refl _))).mono ?_
      rintro e W2 ⟨rfl, hb2⟩
      have HB2 := hid (HB1.out.trans (hb2.mono HB1.out.size))
      clear hb2
      go_wp2_with fail
      refine (HAW.out _ (HT.out.below HB2.out)).mono ?_
      rintro e W3 ⟨rfl, hb3⟩
      have HB3 := hid (HB2.out.trans (hb3.mono HB2.out.size))
      clear hb3
      go_wp2_with fail
      go_ret
      exact ⟨rfl, HB3.out⟩
end Go.Proofs.YtakompbdbmlocaaDoor
