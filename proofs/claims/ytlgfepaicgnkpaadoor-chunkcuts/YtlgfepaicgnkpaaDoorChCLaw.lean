
/- Of a beginning of a body in chunks more is to come: the statement's walk. -/
import Derived.Test.YtlgfepaicgnkpaaDoorChTot
import Derived.Test.YtlgfepaicgnkpaaDoorChAw
import Derived.OpenShut
namespace Go.Proofs.YtlgfepaicgnkpaaDoor
set_option linter.unusedVariables false
set_option linter.unusedSimpArgs false
open Go.RowKit Go.BigFrame

set_option maxHeartbeats 1000000 in
set_option maxRecDepth 100000 in
theorem cuts10_law (l : List (List UInt8)) (A : Option Addr) (c : Nat) (cut : Int) (w : World) (hn2 : l.length ≤ 281474976710656) (hA : PcsAt w A l) (hcut : (Lit.int .u16 cut).wf = true) (hT : TabC w) : Calls Tryd.prog 5 #[.slice A l.length c, .int .u16 cut] w fun e w' => e = .returned (.bool true) ∧ Below w.heap.size w w' := by
  have HT := hid hT
  have HA := hid hA
  have HAW := hid (fun W hW => awake10 W hW)
  have HLI := hid (light10_any l A l.length c rfl hn2 w hA)
  have hb := Go.bounds_u16 hcut
  have hc0 := hb.1
  have hc1 := hb.2
  clear hT hA hcut hb
  cases hli : lightC l with
  | false =>
    rw [hli] at HLI
    generalize l.length = n at HLI ⊢
    clear hli
    go_enter Tryd.func5, Tryd.ntmps5
    go_wp2_with fail
    refine HLI.out.mono ?_
    rintro e W1 ⟨rfl, rfl⟩
    go_wp2_with fail
    refine (HAW.out _ HT.out).mono ?_
    rintro e W2 ⟨rfl, hb2⟩
    have HB2 := hid hb2
    clear hb2
    go_wp2_with fail
    go_ret
    exact ⟨rfl, HB2.out⟩
  | true =>
    rw [hli] at HLI
    unfold lightC at hli
    rw [Bool.and_eq_true] at hli
    have hfl : l.flatten.length ≤ 32768 := by have := of_decide_eq_true hli.2; omega
    have HEN := hid (encode_ok l A l.length c rfl hn2 w HT.out HA.out hfl)
    have h5 := enc_pos l
    have h6 := enc_len l hfl
    have HCP : Hid (∀ k, k < (encC l).length → decodeC ((encC l).take k) = ([], 0, 10)) := fun k hk => decode_cut l hfl k hk
    generalize hPR : encC l = PR at HEN HCP h5 h6
    clear hPR
    obtain ⟨kc, rfl⟩ : ∃ kc : Nat, cut = (kc : Int) := ⟨cut.toNat, by omega⟩
    generalize hsz : PR.length = sz at HEN h5 h6 HCP
    have HSZ := hid hsz
    clear hsz
    have hmod : Int.tmod (kc : Int) (sz : Int) = ((kc % sz : Nat) : Int) := rfl
    have hlt : kc % sz < sz := Nat.mod_lt _ (by omega)
    have HPA : Hid (∀ X cap W, kc % sz ≤ cap → TabC W → BytesAt W (some X) (PR.take (kc % sz)) → Calls Tryd.prog 12 #[.slice (some X) (kc % sz) cap] W fun e w' => ∃ v, e = .returned (.tuple #[v, .int .i64 0, .int .i64 10]) ∧ Down w' W.heap.size v [] ∧ Below W.heap.size W w') := fun X cap W h1 h2 h3 => by
      have hlen : (PR.take (kc % sz)).length = kc % sz := by rw [List.length_take, HSZ.out]; omega
      have := decode_any (PR.take (kc % sz)) X cap (by omega) (by omega) W h2 h3
      rw [HCP.out _ hlt, hlen] at this
      exact this
    generalize kc % sz = m at hmod hlt HPA
    have hm0 : (0 : Int) ≤ (m : Int) := by omega
    have hz0 : ((sz : Int) == 0) = false := by rw [beq_eq_false_iff_ne]; omega
    have hz1 : ¬ (sz : Int) = 0 := by omega
    generalize l.length = n at HLI HEN ⊢
    clear hli HCP hfl
    go_enter Tryd.func5, Tryd.ntmps5
    go_wp2_with fail
    refine HLI.out.mono ?_
    rintro e W1 ⟨rfl, rfl⟩
    go_wp2_with fail
    refine HEN.out.mono ?_
    rintro e W3 ⟨g, cap, rfl, hown, hb3⟩
    have HB3 := hid hb3
    have hcap := hown.le
    have HBY := hid (hown.bytes.take m)
    have hmc : (m : Int) ≤ (cap : Int) := by omega
    clear hb3 hown
    go_wp2_with fail
    refine (HPA.out _ cap _ (by omega) (HT.out.below HB3.out) HBY.out).mono ?_
    rintro e W4 ⟨v, rfl, hv, hb4⟩
    have HB4 := hid (HB3.out.trans (hb4.mono HB3.out.size))
    obtain ⟨VA, vc, rfl⟩ := hv.shape
    rw [List.length_nil]
    clear hb4 hv
    go_wp2_with fail
    refine (HAW.out _ (HT.out.below HB4.out)).mono ?_
    rintro e W5 ⟨rfl, hb5⟩
    have HB5 := hid (HB4.out.trans (hb5.mono HB4.out.size))
    clear hb5
    go_wp2_with fail
    go_ret
    exact ⟨rfl, HB5.out⟩
end Go.Proofs.YtlgfepaicgnkpaaDoor
