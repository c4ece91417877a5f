
/- A message's headers with the one for its body: what saysBody, withLength, requestHeaders and responseHeaders of package http do. -/
import Derived.Test.YtclonnpglikddaaGreatDoorHtMsg
import Derived.Test.YtclonnpglikddaaGreatDoorHdPri
namespace Go.Proofs.YtclonnpglikddaaGreatDoor
set_option linter.unusedVariables false
set_option linter.unusedSimpArgs false
open Go.RowKit Go.BigFrame

theorem load25_eq (x : Value) : Instr.loadAt 25 x = loadI 25 x := rfl
theorem load40_eq (x : Value) : Instr.loadAt 40 x = loadI 40 x := rfl
theorem loadM25 {w : World} {g : Nat} {cs : Array Value} {fr : Nat × Nat} (hg : w.heap[g]? = some (.cells cs 25 fr)) (hz : cs.size = 4) : (loadI 25 (.pointer (some ⟨g, 0, none⟩))).run Tryz.prog w = .ok (.agg cs) w := by
  unfold loadI
  simp only [Instr.loadAt, Instr.sureAddr, Sem.run_bind, Sem.run_pure, Result.andThen_ok, load25 hg hz]
theorem loadM40 {w : World} {g : Nat} {cs : Array Value} {fr : Nat × Nat} (hg : w.heap[g]? = some (.cells cs 40 fr)) (hz : cs.size = 4) : (loadI 40 (.pointer (some ⟨g, 0, none⟩))).run Tryz.prog w = .ok (.agg cs) w := by
  unfold loadI
  simp only [Instr.loadAt, Instr.sureAddr, Sem.run_bind, Sem.run_pure, Result.andThen_ok, load40 hg hz]
theorem light_small (l : List HdV) (h : sizeH l ≤ 30000) : SmallH l := fun k hk => Nat.le_trans (hdl_le l k hk) (by omega)
theorem without_id (l : List HdV) (h : allH l clM = []) : withoutH l [clM] = l := by
  unfold withoutH
  refine List.filter_eq_self.2 fun x hx => ?_
  unfold keepH
  simp only [List.all_cons, List.all_nil, Bool.and_true]
  cases hl : likeH x.name clM with
  | false => rfl
  | true =>
    exfalso
    have : x.value ∈ allH l clM := List.mem_map.2 ⟨x, List.mem_filter.2 ⟨hx, hl⟩, rfl⟩
    rw [h] at this
    simp at this
theorem with_size (l : List HdV) (n : Nat) (hn : n ≤ 99999) (h : sizeH l ≤ 20000) : sizeH (withM l n) ≤ 20023 := by
  unfold withM
  rw [size_snoc]
  unfold hdl
  have := digs_len 4 n (by omega)
  show sizeH l + (14 + 2 + (Lib.decDigits n).length + 2) ≤ 20023
  omega
theorem with_len (l : List HdV) (n : Nat) : (withM l n).length = l.length + 1 := by unfold withM; simp
def saysB (l : List HdV) : Bool := getB l clM || getB l teM
theorem saysBody_any (l : List HdV) (A : Option Addr) (c : Nat) (hl : l.length ≤ 1000000) (hs : SmallH l) (w : World) (hA : HdsAt w A l) : Calls Tryz.prog 33 #[.slice A l.length c] w fun e w' => e = .returned (.bool (saysB l)) ∧ Below w.heap.size w w' := by
  have HA := hid hA
  have HG1 := hid (fun W hW => get_any l clM A c hl hs (by decide) W hW)
  have HG2 := hid (fun W hW => get_any l teM A c hl hs (by decide) W hW)
  have HR : Hid (saysB l = (getB l clM || getB l teM)) := rfl
  generalize saysB l = R at HR ⊢
  generalize getB l clM = b1 at HG1 HR
  generalize getB l teM = b2 at HG2 HR
  generalize asS (getV l clM) = S1 at HG1
  generalize asS (getV l teM) = S2 at HG2
  generalize l.length = n at HG1 HG2 ⊢
  have HG1' : Hid (∀ W, HdsAt W A l → Calls Tryz.prog 60 #[.slice A n c, .string ⟨#[67, 111, 110, 116, 101, 110, 116, 45, 76, 101, 110, 103, 116, 104]⟩] W fun e w' => e = .returned (.tuple #[.string S1, .bool b1]) ∧ Below W.heap.size W w') := HG1.out
  have HG2' : Hid (∀ W, HdsAt W A l → Calls Tryz.prog 60 #[.slice A n c, .string ⟨#[84, 114, 97, 110, 115, 102, 101, 114, 45, 69, 110, 99, 111, 100, 105, 110, 103]⟩] W fun e w' => e = .returned (.tuple #[.string S2, .bool b2]) ∧ Below W.heap.size W w') := HG2.out
  clear hA hl hs HG1 HG2
  go_enter Tryz.func33, Tryz.ntmps33
  go_wp2_with fail
  refine (HG1'.out _ HA.out).mono ?_
  rintro e W1 ⟨rfl, hb1⟩
  have HB1 := hid hb1
  clear hb1
  go_wp2_with fail
  refine (HG2'.out _ (HA.out.below HB1.out (Nat.le_refl _))).mono ?_
  rintro e W2 ⟨rfl, hb2⟩
  have HB2 := hid (HB1.out.trans (hb2.mono HB1.out.size))
  clear hb2
  cases b1
  all_goals go_wp2_with fail
  all_goals (go_ret; exact ⟨by rw [HR.out]; rfl, HB2.out⟩)
theorem withLength_any (l : List HdV) (A : Option Addr) (c : Nat) (B : Option Addr) (n cb : Nat) (hl : l.length ≤ 100000) (hs : SmallH l) (hn : n ≤ 99999) (hcl : allH l clM = []) (w : World) (hT : TabC w) (hA : HdsAt w A l) : Calls Tryz.prog 54 #[.slice A l.length c, .slice B n cb] w fun e w' => ∃ v, e = .returned v ∧ HdsV w' v (withM l n) ∧ Below w.heap.size w w' := by
  have HA := hid hA
  have HIT := hid (itoa8 n (by omega) w hT)
  have hdl := digs_len 4 n (by omega)
  have HST : Hid (∀ W, HdsAt W A l → Calls Tryz.prog 83 #[.slice A l.length c, .string ⟨#[67, 111, 110, 116, 101, 110, 116, 45, 76, 101, 110, 103, 116, 104]⟩, .string (asS (Lib.decDigits n))] W fun e w' => ∃ v, e = .returned v ∧ HdsV w' v (withM l n) ∧ Below W.heap.size W w') := fun W hW => by
    have := set9_any l clM (Lib.decDigits n) A c hl hs (by decide) (by omega) W hW
    rw [without_id l hcl] at this
    exact this
  clear hA hs hT hcl hl hdl
  generalize asS (Lib.decDigits n) = D at HIT HST
  generalize l.length = ln at HST ⊢
  go_enter Tryz.func54, Tryz.ntmps54
  go_wp2_with fail
  refine HIT.out.mono ?_
  rintro e W1 ⟨rfl, hb1⟩
  have HB1 := hid hb1
  clear hb1
  go_wp2_with fail
  refine (HST.out _ (HA.out.below HB1.out (Nat.le_refl _))).mono ?_
  rintro e W2 ⟨v, rfl, hv, hb2⟩
  have HB2 := hid (HB1.out.trans (hb2.mono HB1.out.size))
  have HV := hid hv
  clear hb2 hv
  go_wp2_with fail
  go_ret
  exact ⟨v, rfl, HV.out, HB2.out⟩
theorem reqHds_any (S1 S2 : ByteArray) (l : List HdV) (A : Option Addr) (c : Nat) (B : Option Addr) (n cb : Nat) (hl : l.length ≤ 100000) (hs : SmallH l) (hn : n ≤ 99999) (hcl : allH l clM = []) (w : World) (hT : TabC w) (hA : HdsAt w A l) : Calls Tryz.prog 27 #[.agg #[.string S1, .string S2, .slice A l.length c, .slice B n cb]] w fun e w' => ∃ v, e = .returned v ∧ HdsV w' v (if 0 < n then withM l n else l) ∧ Below w.heap.size w w' := by
  have HA := hid hA
  have HT := hid hT
  have HWL := hid (fun W hT hW => withLength_any l A c B n cb hl hs hn hcl W hT hW)
  have HB0 := hid (alloc_below (Below.refl w.heap.size w) (Nat.le_refl _) (.cells #[.string S1, .string S2, .slice A l.length c, .slice B n cb] 25))
  have HLN : Hid (l.length = l.length) := rfl
  clear hA hs hT hcl hl hn
  generalize hln : l.length = ln at HWL HB0 ⊢
  replace HLN := hid hln
  clear hln
  by_cases h0 : n = 0
  · rw [if_neg (by omega)]
    have h1 : ((n : Int) == 0) = true := by rw [h0]; rfl
    have h2 : (n : Int) = 0 := by omega
    clear h0
    go_enter Tryz.func27, Tryz.ntmps27
    go_wp2_with fail
    go_ret
    exact ⟨.slice A ln c, rfl, ⟨A, c, by rw [HLN.out], HA.out.below HB0.out (Nat.le_refl _)⟩, HB0.out⟩
  · rw [if_pos (by omega)]
    have h1 : ((n : Int) == 0) = false := by rw [beq_eq_false_iff_ne]; omega
    have h2 : ¬ (n : Int) = 0 := by omega
    clear h0
    go_enter Tryz.func27, Tryz.ntmps27
    go_wp2_with fail
    refine (HWL.out _ (HT.out.below HB0.out) (HA.out.below HB0.out (Nat.le_refl _))).mono ?_
    rintro e W2 ⟨v, rfl, hv, hb2⟩
    have HB2 := hid (HB0.out.trans (hb2.mono HB0.out.size))
    have HV := hid hv
    clear hb2 hv
    go_wp2_with fail
    go_ret
    exact ⟨v, rfl, HV.out, HB2.out⟩
theorem resHds_any (st : Int) (S2 : ByteArray) (l : List HdV) (A : Option Addr) (c : Nat) (B : Option Addr) (n cb : Nat) (hl : l.length ≤ 100000) (hs : SmallH l) (hn : n ≤ 99999) (hcl : allH l clM = []) (w : World) (hT : TabC w) (hA : HdsAt w A l) : Calls Tryz.prog 43 #[.agg #[.int .i64 st, .string S2, .slice A l.length c, .slice B n cb]] w fun e w' => ∃ v, e = .returned v ∧ HdsV w' v (if bareM st then l else withM l n) ∧ Below w.heap.size w w' := by
  have HA := hid hA
  have HT := hid hT
  have HBA := hid (fun W => bodiless_any st W)
  have HWL := hid (fun W hT hW => withLength_any l A c B n cb hl hs hn hcl W hT hW)
  have HB0 := hid (alloc_below (Below.refl w.heap.size w) (Nat.le_refl _) (.cells #[.int .i64 st, .string S2, .slice A l.length c, .slice B n cb] 40))
  have HLN : Hid (l.length = l.length) := rfl
  clear hA hs hT hcl hl hn
  generalize hln : l.length = ln at HWL HB0 ⊢
  replace HLN := hid hln
  clear hln
  generalize bareM st = bare at HBA ⊢
  go_enter Tryz.func43, Tryz.ntmps43
  go_wp2_with fail
  refine (HBA.out _).mono ?_
  rintro e W1 ⟨rfl, rfl⟩
  cases bare
  · go_wp2_with fail
    refine (HWL.out _ (HT.out.below HB0.out) (HA.out.below HB0.out (Nat.le_refl _))).mono ?_
    rintro e W2 ⟨v, rfl, hv, hb2⟩
    have HB2 := hid (HB0.out.trans (hb2.mono HB0.out.size))
    have HV := hid hv
    clear hb2 hv
    go_wp2_with fail
    go_ret
    exact ⟨v, rfl, HV.out, HB2.out⟩
  · go_wp2_with fail
    go_ret
    exact ⟨.slice A ln c, rfl, ⟨A, c, by rw [HLN.out], HA.out.below HB0.out (Nat.le_refl _)⟩, HB0.out⟩
end Go.Proofs.YtclonnpglikddaaGreatDoor
