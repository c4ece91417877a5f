
/- Headers by name: what Get of package header does; whether a header is read (awake). -/
import Derived.Test.YtclonnpglikddaaGreatDoorHdParse
namespace Go.Proofs.YtclonnpglikddaaGreatDoor
set_option linter.unusedVariables false
set_option linter.unusedSimpArgs false
open Go.RowKit Go.BigFrame

def likeH (a b : List UInt8) : Bool := decide (a.map lowB = b.map lowB)
def allH (l : List HdV) (name : List UInt8) : List (List UInt8) := (l.filter fun h => likeH h.name name).map (·.value)
def getV (l : List HdV) (name : List UInt8) : List UInt8 := (allH l name).headD []
def getB (l : List HdV) (name : List UInt8) : Bool := !(allH l name).isEmpty
theorem all_none (l : List HdV) (name : List UInt8) (k : Nat) (hk : l.length ≤ k) (h : ∀ j, j < k → likeH (l.getD j zeroH).name name = false) : allH l name = [] := by
  unfold allH
  rw [List.filter_eq_nil_iff.2 fun x hx => ?_]
  · rfl
  · obtain ⟨j, hj, e⟩ := List.getElem_of_mem hx
    have := h j (by omega)
    rw [List.getD_eq_getElem?_getD, List.getElem?_eq_getElem hj, Option.getD_some, e] at this
    simp [this]
theorem all_cons (h : HdV) (r : List HdV) (name : List UInt8) : allH (h :: r) name = if likeH h.name name then h.value :: allH r name else allH r name := by
  unfold allH
  rw [List.filter_cons]
  split
  · simp
  · rfl
theorem all_first : ∀ (l : List HdV) (name : List UInt8) (k : Nat), k < l.length → (∀ j, j < k → likeH (l.getD j zeroH).name name = false) → likeH (l.getD k zeroH).name name = true → ∃ r, allH l name = (l.getD k zeroH).value :: r
  | [], _, k, h, _, _ => by simp at h
  | h :: r, name, 0, _, _, hl => ⟨allH r name, by
    have hl' : likeH h.name name = true := hl
    rw [all_cons, if_pos hl']; rfl⟩
  | h :: r, name, k + 1, hk, hn, hl => by
    have h0 : likeH h.name name = false := hn 0 (by omega)
    obtain ⟨s, e⟩ := all_first r name k (by simpa using hk) (fun j hj => hn (j + 1) (by omega)) hl
    exact ⟨s, by rw [all_cons, h0]; exact e⟩
/-- None is too long. -/
def SmallH (l : List HdV) : Prop := ∀ k, k < l.length → hdl (l.getD k zeroH) ≤ 1000000
set_option maxHeartbeats 1000000 in
set_option maxRecDepth 100000 in
theorem get_any (l : List HdV) (name : List UInt8) (A : Option Addr) (c : Nat) (hl : l.length ≤ 1000000) (hs : SmallH l) (hn : name.length ≤ 1000000) (w : World) (hA : HdsAt w A l) : Calls Tryz.prog 60 #[.slice A l.length c, .string (asS name)] w fun e w' => e = .returned (.tuple #[.string (asS (getV l name)), .bool (getB l name)]) ∧ Below w.heap.size w w' := by
  have HA := hid hA
  have HLO := hid (fun W => lower_any name W hn)
  have HLX := hid (fun (x : List UInt8) hx W => lower_any x W hx)
  have HCX := hid (fun (x : List UInt8) (hx : x.length ≤ 1000000) W => clone8 (asS x) (by rw [asS_size]; omega) W)
  have HSM := hid hs
  have HNO : Hid (∀ k, l.length ≤ k → (∀ j, j < k → likeH (l.getD j zeroH).name name = false) → getV l name = [] ∧ getB l name = false) := fun k h1 h2 => by
    have e := all_none l name k h1 h2
    unfold getV getB
    rw [e]
    exact ⟨rfl, rfl⟩
  have HYES : Hid (∀ k, k < l.length → (∀ j, j < k → likeH (l.getD j zeroH).name name = false) → likeH (l.getD k zeroH).name name = true → getV l name = (l.getD k zeroH).value ∧ getB l name = true) := fun k h1 h2 h3 => by
    obtain ⟨r, e⟩ := all_first l name k h1 h2 h3
    unfold getV getB
    rw [e]
    exact ⟨rfl, rfl⟩
  clear hA hs
  generalize getV l name = GV at HNO HYES ⊢
  generalize getB l name = GB at HNO HYES ⊢
  generalize hln : l.length = n at hl HNO HYES ⊢
  have HN := hid hln
  clear hln
  have HLK : Hid (∀ x : List UInt8, ((asS (x.map lowB)).toList == (asS (name.map lowB)).toList) = likeH x name) := fun x => tl_two _ _
  generalize asS (name.map lowB) = LO at HLO HLK
  generalize asS name = NA at HLO ⊢
  go_enter Tryz.func60, Tryz.ntmps60
  go_wp2_with fail
  refine (HLO.out _).mono ?_
  rintro e W0 ⟨rfl, hb0⟩
  have HB0 := hid hb0
  clear hb0
  go_wp2_with fail
  go_loopw [13] (fun i wr => ∃ k : Nat, i = .int .i64 (k : Int) ∧ Hid (k ≤ n) ∧ Hid (∀ j, j < k → likeH (l.getD j zeroH).name name = false) ∧ Hid (Below w.heap.size w wr)) (fun i wr => n - (intOf i).toNat)
  case atStart => exact ⟨0, rfl, Nat.zero_le _, fun j hj => by omega, HB0⟩
  case round =>
    obtain ⟨k, rfl, HK, HP, HB⟩ := hrel
    by_cases hlt : k < n
    · have hi : (k : Int) < (n : Int) := by omega
      have HQ := hid (HA.out (by have := HN.out; omega))
      obtain ⟨q, o, hq, hqs, hcs⟩ := HQ.out
      have hc := hcs k (by have := HN.out; omega)
      have k1 := (HB.out.cell (p := ⟨q, o + k * 2, none⟩) hqs).trans hc.1
      have k2 := (HB.out.cell (p := ⟨q, o + k * 2 + 1, none⟩) hqs).trans hc.2
      clear hcs hc hqs HQ
      subst hq
      have hsm := HSM.out k (by have := HN.out; omega)
      unfold hdl at hsm
      have HL2 := hid (fun W => HLX.out (l.getD k zeroH).name (by omega) W)
      have HC2 := hid (fun W => HCX.out (l.getD k zeroH).value (by omega) W)
      have hlk := HLK.out (l.getD k zeroH).name
      have HY2 := hid (HYES.out k hlt HP.out)
      have HP2 : Hid (likeH (l.getD k zeroH).name name = false → ∀ j, j < k + 1 → likeH (l.getD j zeroH).name name = false) := fun h j hj => by
        rcases Nat.lt_succ_iff_lt_or_eq.1 hj with h1 | rfl
        · exact HP.out j h1
        · exact h
      have HVE : Hid (asS (l.getD k zeroH).value = asS (l.getD k zeroH).value) := rfl
      generalize hvv : (l.getD k zeroH).value = vv at k2 HC2 HY2
      generalize asS (l.getD k zeroH).name = N at k1 HL2
      generalize asS ((l.getD k zeroH).name.map lowB) = LN at HL2 hlk
      generalize likeH (l.getD k zeroH).name name = m at hlk HY2 HP2
      clear hsm hvv HVE
      cases m
      · have HP3 := hid (HP2.out (by trivial))
        generalize asS vv = V at k2
        go_wp2_with fail
        refine (HL2.out _).mono ?_
        rintro e W ⟨rfl, hb⟩
        have HB2 := hid ((alloc_below HB.out HB.out.size (.cells #[.string N, .string V] 69)).trans (hb.mono (alloc_below HB.out HB.out.size _).size))
        clear hb k1 k2
        go_wp2_with fail
        go_roundw
        case rel => exact ⟨k + 1, by go_num, hid (by omega), HP3, HB2⟩
        case measure => simp [intOf]; omega
      · have HY3 := hid (HY2.out (by trivial))
        generalize hV : asS vv = V at k2 HC2
        have HV := hid hV
        clear hV
        go_wp2_with fail
        refine (HL2.out _).mono ?_
        rintro e W ⟨rfl, hb⟩
        have HB2 := hid ((alloc_below HB.out HB.out.size (.cells #[.string N, .string V] 69)).trans (hb.mono (alloc_below HB.out HB.out.size _).size))
        have q2 : W.cell? ⟨wr.heap.size, 1, none⟩ = some (.string V) := (hb.cell (p := ⟨wr.heap.size, 1, none⟩) (by simp)).trans (cell_of_row _ _ _ _ _ _ (heap_alloc_new wr _))
        clear hb k1 k2
        go_wp2_with fail
        refine (HC2.out _).mono ?_
        rintro e W3 ⟨rfl, hb⟩
        have HB3 := hid (HB2.out.trans (hb.mono HB2.out.size))
        clear hb q2
        go_wp2_with fail
        go_ret2
        exact ⟨by rw [HY3.out.1, HY3.out.2, HV.out]; rfl, HB3.out⟩
    · have hi : ¬ (k : Int) < (n : Int) := by omega
      have HR := hid (HNO.out k (by omega) HP.out)
      go_wp2_with fail
      go_ret2
      exact ⟨by rw [HR.out.1, HR.out.2]; rfl, HB.out⟩
end Go.Proofs.YtclonnpglikddaaGreatDoor
