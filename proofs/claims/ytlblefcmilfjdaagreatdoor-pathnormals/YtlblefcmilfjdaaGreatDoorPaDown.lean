
/- What path.cutSegment, cmp.Or, bytes.LastIndex, text.Lower, path.withoutDots and path.Dots do. -/
import Derived.Test.YtlblefcmilfjdaaGreatDoorPaBook
import Derived.Test.YtlblefcmilfjdaaGreatDoorIpRefLo
import Derived.Test.YtlblefcmilfjdaaGreatDoorIpTab
import Derived.BigQuiet
import Derived.LoopN
import Derived.Test.YtlblefcmilfjdaaGreatDoorBase
import Derived.Test.YtlblefcmilfjdaaGreatDoorIpRefP
import Derived.Test.YtlblefcmilfjdaaGreatDoorUrUn
import Derived.Test.YtlblefcmilfjdaaGreatDoorUrPar
import Derived.Lib.SlBytesConst
namespace Go.Proofs.YtlblefcmilfjdaaGreatDoor
set_option linter.unusedVariables false
set_option linter.unusedSimpArgs false
open Go.RowKit Go.BigFrame

theorem cut_find (l : List UInt8) : (Lib.cut l [47]).1.length = findU [47] l := by
  rcases first_dec 47 l with h | ⟨a, x, rfl, h⟩
  · rw [cut_no 47 l h, findU_none [47] l fun j hj => ?_]
    have : l.getD j 0 ≠ 47 := fun e => h (by
      rw [← e, List.getD_eq_getElem?_getD, List.getElem?_eq_getElem hj]
      exact List.getElem_mem hj)
    simpa using this
  · rw [cut_at 47 a x h, find_skip [47] a _ (fun c hc => by
      have : c ≠ 47 := fun e => h (e ▸ hc)
      simpa using this), find_here [47] 47 x rfl]
    rfl
theorem pre_47 (c : UInt8) (r : List UInt8) : Lib.hasPrefix (c :: r) [47] = decide (c = 47) := by
  unfold Lib.hasPrefix
  by_cases h : c = 47
  · subst h; simp
  · have h1 : (47 == c) = false := by rw [beq_eq_false_iff_ne]; exact Ne.symm h
    simp [h, List.isPrefixOf, h1]
theorem trim_47 (l : List UInt8) : Lib.trimPrefix l [47] = trimS l := by
  match l with
  | [] => rfl
  | c :: r =>
    unfold Lib.trimPrefix trimS
    rw [pre_47]
    by_cases h : c = 47
    · subst h; rfl
    · simp [h]
theorem seg_prog (c : UInt8) (r : List UInt8) : (Lib.cut (trimS (c :: r)) [47]).1.length + (if c = 47 then 1 else 0) = segN (c :: r) := by
  rw [cut_find]
  unfold segN trimS
  by_cases h : c = 47
  · subst h
    simp
    omega
  · have e : ¬ (c :: r).getD 0 0 = 47 := h
    rw [if_neg e, if_neg h]
    have := find_skip [47] [c] r (fun d hd => by
      rw [List.mem_singleton] at hd
      subst hd
      simpa using h)
    simp only [List.singleton_append, List.length_singleton] at this
    rw [this]
    simp
theorem trimP_any (l : List UInt8) (w : World) : Calls Tryz.prog 42 #[.string (asS l), .string ⟨#[47]⟩] w fun e w' => e = .returned (.string (asS (trimS l))) ∧ w' = w := by
  have := Tryz.strings_TrimPrefix (asS l) ⟨#[47]⟩ w
  rw [show (⟨(Lib.trimPrefix (asS l).data.toList (⟨#[47]⟩ : ByteArray).data.toList).toArray⟩ : ByteArray) = asS (trimS l) from by rw [← trim_47]; rfl] at this
  exact this
theorem hasP_any (c : UInt8) (r : List UInt8) (w : World) : Calls Tryz.prog 67 #[.string (asS (c :: r)), .string ⟨#[47]⟩] w fun e w' => e = .returned (.bool (decide (c = 47))) ∧ w' = w := by
  have := Tryz.strings_HasPrefix (asS (c :: r)) ⟨#[47]⟩ w
  rw [show Lib.hasPrefix (asS (c :: r)).data.toList (⟨#[47]⟩ : ByteArray).data.toList = decide (c = 47) from pre_47 c r] at this
  exact this
theorem cut8_any (l : List UInt8) (hl : l.length ≤ 1000000) (w : World) (hT : TabS w) : Calls Tryz.prog 66 #[.string (asS l), .string ⟨#[47]⟩] w fun e w' => e = .returned (.tuple #[.string (asS (Lib.cut l [47]).1), .string (asS (Lib.cut l [47]).2.1), .bool (Lib.cut l [47]).2.2]) ∧ Below w.heap.size w w' := by
  obtain ⟨m, hm⟩ := hT.max
  refine (Tryz.strings_Cut (asS l) ⟨#[47]⟩ m w (by rw [asS_size]; omega) hm).mono ?_
  rintro e w' ⟨rfl, n, rfl⟩
  exact ⟨rfl, below_drewN _ _ _⟩
theorem ext8_from (l : List UInt8) (k : Nat) : (asS l).extract k (asS l).size = asS (l.drop k) := by
  rw [ext_asS, asS_data, asS_size, List.take_of_length_le (by simp)]
theorem ext8_to (l : List UInt8) (k : Nat) : (asS l).extract 0 k = asS (l.take k) := by
  rw [ext_asS, asS_data]; simp
set_option maxHeartbeats 4000000 in
set_option maxRecDepth 100000 in
theorem cutSeg_any (l : List UInt8) (h0 : l ≠ []) (hl : l.length ≤ 100000) (w : World) (hT : TabS w) : Calls Tryz.prog 41 #[.string (asS l)] w fun e w' => e = .returned (.tuple #[.string (asS (sgD l)), .string (asS (rsD l))]) ∧ Below w.heap.size w w' := by
  obtain ⟨c, r, rfl⟩ := List.exists_cons_of_ne_nil h0
  have HTP := hid (fun W => trimP_any (c :: r) W)
  have HHP := hid (fun W => hasP_any c r W)
  have hlt : (trimS (c :: r)).length ≤ 1000000 := by have := trim_len (c :: r); omega
  have HCU := hid (fun W h => cut8_any (trimS (c :: r)) hlt W h)
  have hsp := seg_prog c r
  have hle := segN_le (c :: r) h0
  have hsz := asS_size (c :: r)
  have he1 := ext8_to (c :: r) (segN (c :: r))
  have he2 := ext8_from (c :: r) (segN (c :: r))
  have hn := asS_size (Lib.cut (trimS (c :: r)) [47]).1
  have hN : (c :: r).length ≤ 100000 := hl
  rw [show (c :: r).take (segN (c :: r)) = sgD (c :: r) from rfl] at he1
  rw [show (c :: r).drop (segN (c :: r)) = rsD (c :: r) from rfl] at he2
  have HT := hid hT
  generalize asS (sgD (c :: r)) = R1 at he1 ⊢
  generalize asS (rsD (c :: r)) = R2 at he2 ⊢
  generalize asS (trimS (c :: r)) = T at HTP HCU
  generalize (Lib.cut (trimS (c :: r)) [47]).1.length = m at hsp hn
  generalize asS (Lib.cut (trimS (c :: r)) [47]).1 = C1 at HCU hn
  generalize asS (Lib.cut (trimS (c :: r)) [47]).2.1 = C2 at HCU
  generalize (Lib.cut (trimS (c :: r)) [47]).2.2 = C3 at HCU
  generalize asS (c :: r) = S at HTP HHP hsz he1 he2 ⊢
  generalize segN (c :: r) = K at hsp hle he1 he2
  have hKS : K ≤ S.size := by omega
  have hS : S.size ≤ 100000 := by omega
  clear hlt hle hsz hl hN h0 hT
  have HHP2 : Hid (∀ W, Calls Tryz.prog 67 #[.string S, .string ⟨#[47]⟩] W fun e w' => e = .returned (.bool (decide (c = 47))) ∧ w' = W) := HHP
  go_enter Tryz.func41, Tryz.ntmps41
  go_wp2_with fail
  refine (HTP.out _).mono ?_
  rintro e W0 ⟨rfl, rfl⟩
  go_wp2_with fail
  refine (HCU.out _ HT.out).mono ?_
  rintro e W1 ⟨rfl, hb1⟩
  have HB1 := hid hb1
  clear hb1
  go_wp2_with fail
  refine (HHP2.out _).mono ?_
  rintro e W2 ⟨rfl, rfl⟩
  by_cases hc : c = 47
  · rw [if_pos hc] at hsp
    rw [decide_eq_true hc]
    have hcm : m ≤ 100000 := by omega
    have hk0 : (0 : Int) ≤ (m : Int) + 1 := by omega
    have hk1 : (m : Int) + 1 ≤ (S.size : Int) := by omega
    clear hc
    go_wp2_with fail
    go_region
    all_goals go_wp2_with fail
    all_goals (go_ret2; exact ⟨rfl, HB1.out.drew⟩)
  · rw [if_neg hc] at hsp
    rw [decide_eq_false hc]
    obtain rfl : m = K := by omega
    have hcm : m ≤ 100000 := by omega
    have hk1 : (m : Int) ≤ (S.size : Int) := by omega
    clear hc hsp
    go_wp2_with fail
    go_region
    all_goals go_wp2_with fail
    all_goals (go_ret2; exact ⟨rfl, HB1.out.drew⟩)
theorem emp8 (x : List UInt8) : (asS x).toList.isEmpty = decide (x = []) := by
  rw [show (asS x).toList = x from by rw [ByteArray.toList_eq]; rfl]
  cases x <;> rfl
/-- cmp.Or of two texts. -/
def orU (a b : List UInt8) : List UInt8 := if a = [] then b else a
theorem two_at (a b : Value) (k : Nat) (h : k < 2) (w : World) (g : Nat) (hg : w.heap[g]? = some (.cells #[a, b] 9 (0, 0))) : w.cell? ⟨g, k, none⟩ = some (if k = 0 then a else b) := by
  rw [cell_of_row _ _ _ _ _ _ hg]
  match k, h with
  | 0, _ => rfl
  | 1, _ => rfl
set_option maxHeartbeats 4000000 in
set_option maxRecDepth 100000 in
theorem or_any (a b : List UInt8) (g : Nat) (w : World) (hg : w.heap[g]? = some (.cells #[.string (asS a), .string (asS b)] 9 (0, 0))) : Calls Tryz.prog 26 #[.slice (some ⟨g, 0, none⟩) 2 2] w fun e w' => e = .returned (.string (asS (orU a b))) ∧ w' = w := by
  have c0 : w.cell? ⟨g, 0, none⟩ = some (.string (asS a)) := two_at _ _ 0 (by omega) w g hg
  have c1 : w.cell? ⟨g, 1, none⟩ = some (.string (asS b)) := two_at _ _ 1 (by omega) w g hg
  have ea := emp8 a
  have eb := emp8 b
  have HR : Hid (orU a b = if a = [] then b else a) := rfl
  by_cases ha : a = []
  · rw [decide_eq_true ha] at ea
    rw [HR.out, if_pos ha]
    clear HR hg ha
    by_cases hb : b = []
    · rw [decide_eq_true hb] at eb
      have HB : Hid (asS b = ⟨#[]⟩) := by show _ = _; rw [hb]; rfl
      clear hb
      generalize asS a = A at c0 ea
      generalize asS b = B at c1 eb HB ⊢
      go_enter Tryz.func26, Tryz.ntmps26
      go_wp2_with fail
      refine wp_loop_rounds 3 ?_
      rw [rounds_succ]; go_wp2
      rw [rounds_succ]; go_wp2
      rw [rounds_succ]; go_wp2
      go_ret
      exact ⟨by rw [HB.out]; rfl, rfl⟩
    · rw [decide_eq_false hb] at eb
      clear hb
      generalize asS a = A at c0 ea
      generalize asS b = B at c1 eb ⊢
      go_enter Tryz.func26, Tryz.ntmps26
      go_wp2_with fail
      refine wp_loop_rounds 2 ?_
      rw [rounds_succ]; go_wp2
      rw [rounds_succ]; go_wp2
      go_ret
      exact ⟨rfl, rfl⟩
  · rw [decide_eq_false ha] at ea
    rw [HR.out, if_neg ha]
    clear HR hg ha eb c1
    generalize asS a = A at c0 ea ⊢
    go_enter Tryz.func26, Tryz.ntmps26
    go_wp2_with fail
    refine wp_loop_rounds 1 ?_
    rw [rounds_succ]; go_wp2
    go_ret
    exact ⟨rfl, rfl⟩
end Go.Proofs.YtlblefcmilfjdaaGreatDoor
namespace Go.Proofs.YtlblefcmilfjdaaGreatDoor
open Go.RowKit
set_option linter.unusedVariables false
set_option linter.unusedSimpArgs false

def lowTo (l : List UInt8) (k : Nat) : List UInt8 := (l.take k).map lowB ++ l.drop k
theorem lowTo_zero (l : List UInt8) : lowTo l 0 = l := by simp [lowTo]
theorem lowTo_all (l : List UInt8) (k : Nat) (h : l.length ≤ k) : lowTo l k = l.map lowB := by simp [lowTo, List.take_of_length_le h, List.drop_of_length_le h]
theorem lowTo_len (l : List UInt8) (k : Nat) : (lowTo l k).length = l.length := by simp [lowTo]; omega
theorem lowTo_at (l : List UInt8) (k : Nat) (h : k < l.length) : (lowTo l k).getD k 0 = l.getD k 0 := by
  unfold lowTo
  rw [List.getD_eq_getElem?_getD, List.getElem?_append_right (by simp; omega)]
  simp [Nat.min_eq_left (Nat.le_of_lt h), h]
theorem lowTo_succ (l : List UInt8) (k : Nat) (h : k < l.length) : lowTo l (k + 1) = (lowTo l k).set k (lowB (l.getD k 0)) := by
  have hg : l.getD k 0 = l[k] := by rw [List.getD_eq_getElem?_getD, List.getElem?_eq_getElem h]; rfl
  rw [hg]
  unfold lowTo
  rw [List.take_succ_eq_append_getElem h, List.map_append, List.set_append_right _ _ (by simp; omega)]
  have e : k - ((l.take k).map lowB).length = 0 := by simp; omega
  rw [e, List.drop_eq_getElem_cons h, List.set_cons_zero]
  simp only [List.map_cons, List.map_nil, List.append_assoc, List.cons_append, List.nil_append]
theorem lowTo_skip (l : List UInt8) (k : Nat) (h : k < l.length) (hc : lowB (l.getD k 0) = l.getD k 0) : lowTo l (k + 1) = lowTo l k := by
  have hg : l.getD k 0 = l[k] := by rw [List.getD_eq_getElem?_getD, List.getElem?_eq_getElem h]; rfl
  rw [hg] at hc
  unfold lowTo
  rw [List.take_succ_eq_append_getElem h, List.map_append, List.drop_eq_getElem_cons h]
  simp [hc]
theorem lowB_hit (c : UInt8) (h1 : 65 ≤ (c.toNat : Int)) (h2 : (c.toNat : Int) ≤ 90) : ((lowB c).toNat : Int) = (c.toNat : Int) + 32 := by
  have : 65 ≤ c.toNat ∧ c.toNat ≤ 90 := by omega
  simp only [lowB, this, and_self, if_true, UInt8.toNat_add]
  have e : UInt8.toNat 32 = 32 := rfl
  rw [e]; omega
theorem lowB_miss (c : UInt8) (h : ¬ (65 ≤ (c.toNat : Int) ∧ (c.toNat : Int) ≤ 90)) : lowB c = c := by
  have : ¬ (65 ≤ c.toNat ∧ c.toNat ≤ 90) := by omega
  simp [lowB, this]
/-- A row of bytes in block B, none of them frozen. -/
def RowB (B : Nat) (l : List UInt8) (w : World) : Prop :=
  (∀ j, j < l.length → w.cell? ⟨B, j, none⟩ = some (.int .u8 (l.getD j 0).toNat)) ∧ (∀ j, j < l.length → w.frozen? ⟨B, j, none⟩ = false)
theorem rowB_set {B : Nat} {l : List UInt8} {w : World} (h : RowB B l w) (k : Nat) (hk : k < l.length) (c : UInt8) : RowB B (l.set k c) (w.setCell ⟨B, k, none⟩ (.int .u8 c.toNat)) := by
  refine ⟨fun j hj => ?_, fun j hj => ?_⟩
  · rw [List.length_set] at hj
    by_cases e : j = k
    · subst e
      rw [World.cell?_setCell_same w _ _ (h.1 j hj)]
      simp [List.getD_eq_getElem?_getD, hj]
    · rw [World.cell?_setCell_other w _ _ _ (by intro h'; apply e; have := congrArg Addr.off h'; simpa using this.symm), h.1 j hj]
      simp [List.getD_eq_getElem?_getD, List.getElem?_set_ne (Ne.symm e)]
  · rw [List.length_set] at hj
    rw [World.frozen?_setCell]; exact h.2 j hj
theorem rowB_new (w : World) (s : ByteArray) : ∃ cap W1, (convert 9 54 (.string s)).run Tryz.prog w = .ok (.slice (some ⟨w.heap.size, 0, none⟩) s.size cap) W1 ∧ RowB w.heap.size s.data.toList W1 ∧ Below w.heap.size w W1 := by
  obtain ⟨cap, W1, h1, h2, h3⟩ := conv_own w s
  refine ⟨cap, W1, h1, ⟨fun j hj => ?_, fun j hj => ?_⟩, h3⟩
  · obtain ⟨q, o, e, _, hc⟩ := h2.bytes (by omega)
    cases e
    have := hc j hj
    rwa [Nat.zero_add] at this
  · exact (h2.cell j (by have := h2.le; have := h2.len; omega)).2
set_option maxHeartbeats 1000000 in
set_option maxRecDepth 1000000 in
theorem lower_any (l : List UInt8) (w : World) (hs : l.length ≤ 1000000) :
    Calls Tryz.prog 24 #[.string (asS l)] w fun e w' => e = .returned (.string (asS (l.map lowB))) ∧ Below w.heap.size w w' := by
  obtain ⟨cap, W1, hconv, hrow, hb1⟩ := rowB_new w (asS l)
  rw [asS_data] at hrow
  have HL : Hid ((asS l).size = l.length) := asS_size l
  generalize asS l = s at hconv HL ⊢
  have HR := hid hrow; have HB := hid hb1
  have hsz : s.size ≤ 1000000 := by have := HL.out; omega
  clear hrow hb1
  go_enter Tryz.func24, Tryz.ntmps24
  go_wp2
  go_loopw [10] (fun i wr => ∃ k : Nat, k ≤ s.size ∧ i = .int .i64 k ∧ Hid (RowB w.heap.size (lowTo l k) wr) ∧ Hid (Below w.heap.size w wr)) (fun i _ => s.size - (intOf i).toNat)
  case atStart => exact ⟨0, Nat.zero_le _, rfl, by rw [lowTo_zero]; exact HR, HB⟩
  case round =>
    obtain ⟨k, hk, rfl, HR2, HB2⟩ := hrel
    by_cases hlt : k < s.size
    · have hkl : Hid (k < l.length) := by show _ < _; have := HL.out; omega
      obtain ⟨c, hc⟩ : ∃ c : UInt8, Hid (c = l.getD k 0) := ⟨_, rfl⟩
      have hcell : wr.cell? ⟨w.heap.size, k, none⟩ = some (.int .u8 c.toNat) := by
        rw [HR2.out.1 k (by rw [lowTo_len]; exact hkl.out), lowTo_at _ _ hkl.out, hc.out]
      have hfz : wr.frozen? ⟨w.heap.size, k, none⟩ = false := HR2.out.2 k (by rw [lowTo_len]; exact hkl.out)
      have hc0 : (0 : Int) ≤ (c.toNat : Int) := by omega
      have hc1 : (c.toNat : Int) < 256 := by have := c.toNat_lt; omega
      by_cases hu : 65 ≤ (c.toNat : Int) ∧ (c.toNat : Int) ≤ 90
      · obtain ⟨hu1, hu2⟩ := hu
        have HV := hid (lowB_hit c hu1 hu2)
        go_wp2
        go_roundw
        case rel =>
          refine ⟨k + 1, by omega, by go_num, ?_, HB2.out.setCell (Nat.le_refl _) _⟩
          show RowB _ _ _
          have e : (c.toNat : Int) - 65 + 97 = ((lowB c).toNat : Int) := by rw [HV.out]; omega
          rw [e, lowTo_succ _ k hkl.out, ← hc.out]
          exact rowB_set HR2.out k (by rw [lowTo_len]; exact hkl.out) (lowB c)
        case measure => simp [intOf]; omega
      · have HM := hid (lowB_miss c hu)
        have HS : Hid (lowTo l (k + 1) = lowTo l k) := lowTo_skip _ k hkl.out (by rw [← hc.out]; exact HM.out)
        by_cases hu1 : 65 ≤ (c.toNat : Int)
        · have hu2 : ¬ (c.toNat : Int) ≤ 90 := fun h => hu ⟨hu1, h⟩
          clear hu
          go_wp2
          go_roundw
          case rel => exact ⟨k + 1, by omega, by go_num, by rw [HS.out]; exact HR2, HB2⟩
          case measure => simp [intOf]; omega
        · clear hu
          go_wp2
          go_roundw
          case rel => exact ⟨k + 1, by omega, by go_num, by rw [HS.out]; exact HR2, HB2⟩
          case measure => simp [intOf]; omega
    · have HA : Hid (lowTo l k = l.map lowB) := lowTo_all _ k (by have := HL.out; omega)
      have hback : (convert 54 9 (.slice (some ⟨w.heap.size, 0, none⟩) s.size cap)).run Tryz.prog wr = .ok (.string (asS (l.map lowB))) wr := by
        have h2 := HR2.out
        rw [HA.out] at h2
        exact str_row (fun h0 => ⟨w.heap.size, 0, rfl, block_lt_of_cell (h2.1 0 h0), fun j hj => by rw [Nat.zero_add]; exact h2.1 j hj⟩) (by rw [List.length_map]; exact HL.out.symm)
      go_wp2
      go_ret
      exact ⟨rfl, HB2.out⟩
set_option maxHeartbeats 1000000 in
set_option maxRecDepth 1000000 in
theorem refLower_any (l : List UInt8) (w : World) (hs : l.length ≤ 1000000) :
    Calls Tryz.prog 32 #[.string (asS l)] w fun e w' => e = .returned (.string (asS (l.map lowB))) ∧ Below w.heap.size w w' := by
  obtain ⟨cap, W1, hconv, hrow, hb1⟩ := rowB_new w (asS l)
  rw [asS_data] at hrow
  have HL : Hid ((asS l).size = l.length) := asS_size l
  generalize asS l = s at hconv HL ⊢
  have HR := hid hrow; have HB := hid hb1
  have hsz : s.size ≤ 1000000 := by have := HL.out; omega
  clear hrow hb1
  go_enter Tryz.func32, Tryz.ntmps32
  go_wp2
  go_loopw [4] (fun i wr => ∃ k : Nat, k ≤ s.size ∧ i = .int .i64 k ∧ Hid (RowB w.heap.size (lowTo l k) wr) ∧ Hid (Below w.heap.size w wr)) (fun i _ => s.size - (intOf i).toNat)
  case atStart => exact ⟨0, Nat.zero_le _, rfl, by rw [lowTo_zero]; exact HR, HB⟩
  case round =>
    obtain ⟨k, hk, rfl, HR2, HB2⟩ := hrel
    by_cases hlt : k < s.size
    · have hkl : Hid (k < l.length) := by show _ < _; have := HL.out; omega
      obtain ⟨c, hc⟩ : ∃ c : UInt8, Hid (c = l.getD k 0) := ⟨_, rfl⟩
      have hcell : wr.cell? ⟨w.heap.size, k, none⟩ = some (.int .u8 c.toNat) := by
        rw [HR2.out.1 k (by rw [lowTo_len]; exact hkl.out), lowTo_at _ _ hkl.out, hc.out]
      have hfz : wr.frozen? ⟨w.heap.size, k, none⟩ = false := HR2.out.2 k (by rw [lowTo_len]; exact hkl.out)
      have hc0 : (0 : Int) ≤ (c.toNat : Int) := by omega
      have hc1 : (c.toNat : Int) < 256 := by have := c.toNat_lt; omega
      by_cases hu : 65 ≤ (c.toNat : Int) ∧ (c.toNat : Int) ≤ 90
      · obtain ⟨hu1, hu2⟩ := hu
        have HV := hid (lowB_hit c hu1 hu2)
        go_wp2
        go_roundw
        case rel =>
          refine ⟨k + 1, by omega, by go_num, ?_, HB2.out.setCell (Nat.le_refl _) _⟩
          show RowB _ _ _
          have e : (c.toNat : Int) + 32 = ((lowB c).toNat : Int) := by rw [HV.out]
          rw [e, lowTo_succ _ k hkl.out, ← hc.out]
          exact rowB_set HR2.out k (by rw [lowTo_len]; exact hkl.out) (lowB c)
        case measure => simp [intOf]; omega
      · have HM := hid (lowB_miss c hu)
        have HS : Hid (lowTo l (k + 1) = lowTo l k) := lowTo_skip _ k hkl.out (by rw [← hc.out]; exact HM.out)
        by_cases hu1 : 65 ≤ (c.toNat : Int)
        · have hu2 : ¬ (c.toNat : Int) ≤ 90 := fun h => hu ⟨hu1, h⟩
          clear hu
          go_wp2
          go_roundw
          case rel => exact ⟨k + 1, by omega, by go_num, by rw [HS.out]; exact HR2, HB2⟩
          case measure => simp [intOf]; omega
        · clear hu
          go_wp2
          go_roundw
          case rel => exact ⟨k + 1, by omega, by go_num, by rw [HS.out]; exact HR2, HB2⟩
          case measure => simp [intOf]; omega
    · have HA : Hid (lowTo l k = l.map lowB) := lowTo_all _ k (by have := HL.out; omega)
      have hback : (convert 54 9 (.slice (some ⟨w.heap.size, 0, none⟩) s.size cap)).run Tryz.prog wr = .ok (.string (asS (l.map lowB))) wr := by
        have h2 := HR2.out
        rw [HA.out] at h2
        exact str_row (fun h0 => ⟨w.heap.size, 0, rfl, block_lt_of_cell (h2.1 0 h0), fun j hj => by rw [Nat.zero_add]; exact h2.1 j hj⟩) (by rw [List.length_map]; exact HL.out.symm)
      go_wp2
      go_ret
      exact ⟨rfl, HB2.out⟩
end Go.Proofs.YtlblefcmilfjdaaGreatDoor
namespace Go.Proofs.YtlblefcmilfjdaaGreatDoor
set_option linter.unusedVariables false
set_option linter.unusedSimpArgs false
open Go.RowKit Go.BigFrame

theorem Own.cut {w : World} {b g n cap : Nat} {l : List UInt8} (h : Own w b g n cap l) (k : Nat) (hk : k ≤ n) : Own w b g k cap (l.take k) := by
  obtain ⟨r, fz, h1, h2, h3⟩ := h.row
  have hl := h.len
  refine ⟨h.ge, by rw [List.length_take]; omega, bvs (l.drop k) ++ r, fz, ?_, ?_, h3⟩
  · rw [← List.append_assoc, ← bvs_app, List.take_append_drop]; exact h1
  · rw [List.length_append, bvs_len, List.length_drop]; omega
/-- append(nil, a text that is not empty...). -/
theorem run_app_nil (ty : TypeId) {w : World} {b m : Nat} (s : ByteArray) (hm : s.size = m) (h0 : 0 < m) (hn : m ≤ 1000000000) (hb : b ≤ w.heap.size) :
    ∃ cap w', (Builtin.append_ #[54, 9] ty #[.slice none 0 0, .string s]).run Tryz.prog w = .ok (.slice (some ⟨w.heap.size, 0, none⟩) m cap) w' ∧ Own w' b w.heap.size m cap s.data.toList ∧ Below w.heap.size w w' := by
  obtain ⟨i0, hi, hz0, hz1, hz2⟩ := info_parts info5
  have hs : Src Tryz.prog 1 9 (.string s) m (bvs s.data.toList) w := hm ▸ src_text w s
  have hl : s.data.toList.length = m := by rw [← hm]; exact ba_len s
  have hs' : Src Tryz.prog i0.size 9 (.string s) m (bvs s.data.toList) w := by rw [hz1]; exact hs
  have hold : (Builtin.firstCells i0.size 0 (.slice none 0 0)).run Tryz.prog w.drew = .ok (([] : List Value)).toArray w.drew := by simp [Builtin.firstCells]
  have hr := run_append_grow_src w 54 9 ty 5 i0 (.int .u8 0) Tryz.underlying54 hi hz0 none 0 0 [] hold (.string s) m (bvs s.data.toList) hs' (by omega) (by omega) (growslice_fits (by omega) (by rw [hz2]; omega))
  rw [Nat.zero_add] at hr
  have hge := grownCap_ge w m 0 5
  refine ⟨_, _, hr, ⟨hb, hl, (Builtin.zeroCells (Value.int .u8 0).cells (grownCap w m 0 5 - m)).toList, (0, 0), ?_, ?_, .inl rfl⟩, ((Below.refl _ _).drew).alloc (Nat.le_refl _) _⟩
  · rw [show w.heap.size = w.drew.heap.size from rfl, heap_alloc_new w.drew _]
    refine congrArg (fun a => some (Obj.cells a 5 (0, 0))) (Array.ext' ?_)
    simp
  · rw [Array.length_toList, size_zeroCells]
    have : (Value.int .u8 0).cells.size = 1 := rfl
    rw [this]; omega
theorem wpList_app_nil {ops : Array Oper} {rest : List Oper} {o : Oper} {a : Act} {w : World} {Q : Exit → Act → World → Prop} (hgd : o.guard = none) (s x : Operand)
    (ho : o.op = .call { callee := .builtin .append, args := #[s, x], argTypes := #[54, 9] })
    (base m : Nat) (xs : ByteArray) (hs : a.eval s = .slice none 0 0) (hx : a.eval x = .string xs) (hm : xs.size = m) (h0 : 0 < m) (hn : m ≤ 1000000000) (hb : base ≤ w.heap.size)
    (h : ∀ cap w', Own w' base w.heap.size m cap xs.data.toList → Below w.heap.size w w' → wpList Tryz.prog ops Q rest (a.put o.dst (.slice (some ⟨w.heap.size, 0, none⟩) m cap)) w') : wpList Tryz.prog ops Q (o :: rest) a w := by
  refine wpList_plain hgd fun _ hK => ?_
  obtain ⟨cap, w', hr, h2, h3⟩ := run_app_nil o.type (w := w) (b := base) xs hm h0 hn hb
  unfold Oper.wp execOp
  simp only [ho, resolve, invoke, builtin, Sem.run_bind, Sem.run_pure, Result.andThen_ok, List.map_toArray, List.map_cons, List.map_nil, hs, hx, hr]
  exact hK _ _ (h cap w' h2 h3)
theorem drop8 (l : List UInt8) (k : Nat) (h : k < l.length) : l.drop k = l.getD k 0 :: l.drop (k + 1) := by
  rw [List.drop_eq_getElem_cons h, List.getD_eq_getElem?_getD, List.getElem?_eq_getElem h]; rfl
theorem u8_int (x c : UInt8) : ((x.toNat : Int) == (c.toNat : Int)) = decide (x = c) := by
  by_cases h : x = c
  · subst h; simp
  · rw [decide_eq_false h, beq_eq_false_iff_ne]
    exact fun e => h (UInt8.toNat_inj.1 (by omega))
set_option maxHeartbeats 4000000 in
set_option maxRecDepth 100000 in
theorem lastByte_any (l : List UInt8) (g cap : Nat) (hl : l.length ≤ 100000) (w : World) (hc : ∀ j, j < l.length → w.cell? ⟨g, j, none⟩ = some (.int .u8 (l.getD j 0).toNat)) : Calls Tryz.prog 69 #[.slice (some ⟨g, 0, none⟩) l.length cap, .int .u8 47] w fun e w' => e = .returned (.int .i64 (lastI 47 l)) ∧ w' = w := by
  have HC := hid hc
  have HNO := hid (lastI_no 47 l)
  have HAT := hid (lastI_at 47)
  clear hc
  generalize hn : l.length = n at HC hl ⊢
  have HN := hid hn
  clear hn
  generalize hR : lastI 47 l = R at HNO ⊢
  have HR := hid hR
  clear hR
  go_enter Tryz.func69, Tryz.ntmps69
  go_wp2_with fail
  go_loop [5] (fun i => ∃ k : Nat, k ≤ n ∧ i = .int .i64 ((k : Int) - 1) ∧ Hid ((47 : UInt8) ∉ l.drop k)) (fun i => (intOf i + 1).toNat)
  case atStart => exact ⟨n, Nat.le_refl _, rfl, by show _ ∉ _; rw [List.drop_eq_nil_of_le (by have := HN.out; omega)]; simp⟩
  case round =>
    obtain ⟨k, hk, rfl, HM⟩ := hrel
    by_cases h0 : k = 0
    · subst h0
      have HQ : Hid (R = -1) := HNO.out (by have := HM.out; simpa using this)
      have hlt : ¬ (0 : Int) ≤ ((0 : Nat) : Int) - 1 := by omega
      go_wp2_with fail
      go_ret
      exact ⟨by rw [HQ.out]; rfl, rfl⟩
    · obtain ⟨j, rfl⟩ : ∃ j, k = j + 1 := ⟨k - 1, by omega⟩
      have e1 : ((j + 1 : Nat) : Int) - 1 = (j : Int) := by omega
      rw [e1]
      have hcell := HC.out j (by omega)
      obtain ⟨c, hcd⟩ : ∃ c, c = l.getD j 0 := ⟨_, rfl⟩
      rw [← hcd] at hcell
      have HD : Hid (l.drop j = c :: l.drop (j + 1)) := by show _ = _; rw [hcd]; exact drop8 l j (by have := HN.out; omega)
      have hq := u8_int c 47
      rw [show ((47 : UInt8).toNat : Int) = 47 from rfl] at hq
      clear hcd e1 h0
      by_cases hc : c = 47
      · rw [decide_eq_true hc] at hq
        have HQ : Hid (R = (j : Int)) := by
          show _ = _
          have h1 := HAT.out (l.take j) (l.drop (j + 1)) HM.out
          rw [← hc, ← HD.out, List.take_append_drop, hc] at h1
          rw [← HR.out, h1, List.length_take, Nat.min_eq_left (by have := HN.out; omega)]
        clear hc
        go_wp2_with fail
        go_ret
        exact ⟨by rw [HQ.out]; rfl, rfl⟩
      · rw [decide_eq_false hc] at hq
        have HM2 : Hid ((47 : UInt8) ∉ l.drop j) := by
          show _ ∉ _
          rw [HD.out, List.mem_cons, not_or]
          exact ⟨fun e => hc e.symm, HM.out⟩
        clear hc
        go_wp2_with fail
        go_round
        case rel => exact ⟨j, by omega, rfl, HM2⟩
        case measure => simp [intOf] <;> omega
theorem lastByte_nil (cap : Nat) (w : World) : Calls Tryz.prog 69 #[.slice none 0 cap, .int .u8 47] w fun e w' => e = .returned (.int .i64 (-1)) ∧ w' = w := by
  go_enter Tryz.func69, Tryz.ntmps69
  go_wp2_with fail
  refine wp_loop_rounds 1 ?_
  rw [rounds_succ]; go_wp2
  go_ret
  exact ⟨rfl, rfl⟩
set_option maxHeartbeats 4000000 in
set_option maxRecDepth 100000 in
theorem lastIndex_any (v : Value) (R : Int) (g : Nat) (w : World) (hv : ∃ a n c, v = .slice a n c) (hc : w.cell? ⟨g, 0, none⟩ = some (.int .u8 47)) (hL : Calls Tryz.prog 69 #[v, .int .u8 47] w fun e w' => e = .returned (.int .i64 R) ∧ w' = w) :
    Calls Tryz.prog 43 #[v, .slice (some ⟨g, 0, none⟩) 1 1] w fun e w' => e = .returned (.int .i64 R) ∧ w' = w := by
  obtain ⟨a, n, c, rfl⟩ := hv
  have HL := hid hL
  clear hL
  go_enter Tryz.func43, Tryz.ntmps43
  go_wp2_with fail
  refine HL.out.mono ?_
  rintro e W ⟨rfl, rfl⟩
  go_wp2_with fail
  go_ret
  exact ⟨rfl, rfl⟩
end Go.Proofs.YtlblefcmilfjdaaGreatDoor
namespace Go.Proofs.YtlblefcmilfjdaaGreatDoor
set_option linter.unusedVariables false
set_option linter.unusedSimpArgs false
open Go.RowKit Go.BigFrame

/-- What was put down. -/
def Down (w : World) (b : Nat) (d : Value) (o : List UInt8) : Prop := (d = .slice none 0 0 ∧ o = []) ∨ ∃ g n cap, d = .slice (some ⟨g, 0, none⟩) n cap ∧ Own w b g n cap o
theorem Down.below {w w' : World} {b : Nat} {d : Value} {o : List UInt8} (h : Down w b d o) (hb : Below w.heap.size w w') : Down w' b d o := by
  rcases h with h | ⟨g, n, cap, h1, h2⟩
  · exact .inl h
  · exact .inr ⟨g, n, cap, h1, h2.below hb (Nat.le_refl _)⟩
theorem tl_eq (x c : List UInt8) : ((asS x).toList == c) = decide (x = c) := by
  rw [show (asS x).toList = x from by rw [ByteArray.toList_eq]; rfl]
  by_cases h : x = c
  · rw [decide_eq_true h, h]; simp
  · rw [decide_eq_false h]; simpa using h
theorem up_none (o : List UInt8) (h : (47 : UInt8) ∉ o) : upD o = [] := by
  rcases up_cases o with ⟨e, _⟩ | ⟨x, y, rfl, _, _⟩
  · exact e
  · exact absurd (by simp) h
set_option maxHeartbeats 8000000 in
set_option maxRecDepth 100000 in
theorem without_any (l : List UInt8) (hl : l.length ≤ 100000) (w : World) (hT : TabS w) : Calls Tryz.prog 20 #[.string (asS l)] w fun e w' => e = .returned (.string (asS (dotsU l))) ∧ Below w.heap.size w w' := by
  have HT := hid hT
  have HR0 : Hid (dotD l [] = dotsU l) := rfl
  generalize dotsU l = R at HR0 ⊢
  have HCS := hid cutSeg_any
  have HTP := hid trimP_any
  have HOR := hid or_any
  have HLA := hid lastIndex_any
  have HLB := hid lastByte_any
  have HLN := hid lastByte_nil
  clear hT
  go_enter Tryz.func20, Tryz.ntmps20
  go_wp2_with fail
  go_loopw [0, 3] (fun p d wr => ∃ r o : List UInt8, p = .string (asS r) ∧ o.length + r.length ≤ 100000 ∧ Hid (Down wr w.heap.size d o) ∧ Hid (dotD r o = R) ∧ Hid (Below w.heap.size w wr)) (fun p _ _ => unR p)
  case atStart => exact ⟨l, [], rfl, by simpa using hl, .inl ⟨rfl, rfl⟩, HR0, Below.refl _ _⟩
  case round =>
    obtain ⟨r, o, rfl, hlen, HD, HQ, HB⟩ := hrel
    by_cases hr : r = []
    · have he := emp8 r
      rw [decide_eq_true hr] at he
      have HO : Hid (o = R) := by show _ = _; rw [← HQ.out, hr, dotD_nil]
      generalize asS r = S at he ⊢
      clear hr
      rcases HD.out with ⟨rfl, ho⟩ | ⟨g, n, cap, rfl, hown⟩
      · have hst := str_nil wr
        have HE : Hid (asS R = ⟨#[]⟩) := by show _ = _; rw [← HO.out, ho]; rfl
        clear HD ho
        go_wp2_with fail
        go_ret
        exact ⟨by rw [HE.out]; rfl, HB.out⟩
      · have hst : (convert 54 9 (.slice (some ⟨g, 0, none⟩) n cap)).run Tryz.prog wr = .ok (.string (asS R)) wr := by
          rw [← HO.out]
          exact str_row hown.bytes hown.len
        clear HD hown
        go_wp2_with fail
        go_ret
        exact ⟨rfl, HB.out⟩
    · have he := emp8 r
      rw [decide_eq_false hr] at he
      have HC := hid (fun W h => HCS.out r hr (by omega) W h)
      have hstep := dotD_step r o hr
      rw [HQ.out] at hstep
      have hlens := step_len r o hr
      have hsgn := sg_ne r hr
      have hsgl : (sgD r).length ≤ 100000 := by have := sg_len r hr; have := segN_le r hr; omega
      have HM : Hid ((stepD r o).1.length < r.length → unR (.string (asS (stepD r o).1)) < unR (.string (asS r))) := fun h => by
        show (asS _).size < (asS _).size
        rw [asS_size, asS_size]; exact h
      have q1 := tl_eq (sgD r) [46]
      have q2 := tl_eq (sgD r) [46, 46]
      have q3 := tl_eq (sgD r) [47, 46]
      have q4 := tl_eq (sgD r) [47, 46, 46]
      by_cases c1 : sgD r = [46]
      · skip
        have es : stepD r o = (trimS (rsD r), o) := by unfold stepD; rw [if_pos (.inl c1)]
        rw [es] at hstep hlens HM
        have HS := hid hstep.symm
        have HLE := hid hlens
        rw [decide_eq_true c1] at q1
        clear q3 q4 c1 es hstep hlens hsgn hsgl
        have HTR := hid (fun W => HTP.out (rsD r) W)
        generalize asS (rsD r) = RS at HC HTR
        generalize asS (sgD r) = G at HC q1 q2
        generalize hS : asS r = S at he HC HM
        clear hS
        go_wp2_with fail
        refine (HC.out _ (HT.out.below HB.out)).mono ?_
        rintro e W1 ⟨rfl, hb1⟩
        have HB1 := hid (HB.out.trans (hb1.mono HB.out.size))
        have HD1 := hid (HD.out.below hb1)
        clear hb1
        go_wp2_with fail
        refine (HTR.out _).mono ?_
        rintro e W2 ⟨rfl, rfl⟩
        go_wp2_with fail
        go_roundw
        case rel => exact ⟨_, o, rfl, by have := HLE.out.2; omega, HD1, HS, HB1⟩
        case measure => exact HM.out HLE.out.1
      by_cases c2 : sgD r = [46, 46]
      · skip
        have es : stepD r o = (trimS (rsD r), o) := by unfold stepD; rw [if_pos (.inr c2)]
        rw [es] at hstep hlens HM
        have HS := hid hstep.symm
        have HLE := hid hlens
        rw [decide_eq_false c1] at q1; rw [decide_eq_true c2] at q2
        clear q3 q4 c1 c2 es hstep hlens hsgn hsgl
        have HTR := hid (fun W => HTP.out (rsD r) W)
        generalize asS (rsD r) = RS at HC HTR
        generalize asS (sgD r) = G at HC q1 q2
        generalize hS : asS r = S at he HC HM
        clear hS
        go_wp2_with fail
        refine (HC.out _ (HT.out.below HB.out)).mono ?_
        rintro e W1 ⟨rfl, hb1⟩
        have HB1 := hid (HB.out.trans (hb1.mono HB.out.size))
        have HD1 := hid (HD.out.below hb1)
        clear hb1
        go_wp2_with fail
        refine (HTR.out _).mono ?_
        rintro e W2 ⟨rfl, rfl⟩
        go_wp2_with fail
        go_roundw
        case rel => exact ⟨_, o, rfl, by have := HLE.out.2; omega, HD1, HS, HB1⟩
        case measure => exact HM.out HLE.out.1
      by_cases c3 : sgD r = [47, 46]
      · skip
        have es : stepD r o = (orS (rsD r), o) := by unfold stepD; rw [if_neg (by rintro (h | h); exact c1 h; exact c2 h), if_pos c3]
        rw [es] at hstep hlens HM
        have HS := hid hstep.symm
        have HLE := hid hlens
        rw [decide_eq_false c1] at q1
        rw [decide_eq_false c2] at q2
        rw [decide_eq_true c3] at q3
        clear q4 c1 c2 c3 es hstep hlens hsgn hsgl
        have HOX : Hid (∀ g W, W.heap[g]? = some (.cells #[.string (asS (rsD r)), .string ⟨#[47]⟩] 9 (0, 0)) → Calls Tryz.prog 26 #[.slice (some ⟨g, 0, none⟩) 2 2] W fun e w' => e = .returned (.string (asS (orS (rsD r)))) ∧ w' = W) := fun g W h => HOR.out (rsD r) [47] g W h
        generalize asS (rsD r) = RS at HC HOX
        generalize asS (sgD r) = G at HC q1 q2 q3
        generalize hS : asS r = S at he HC HM
        clear hS
        go_wp2_with fail
        refine (HC.out _ (HT.out.below HB.out)).mono ?_
        rintro e W1 ⟨rfl, hb1⟩
        have HB1 := hid (HB.out.trans (hb1.mono HB.out.size))
        have HD1 := hid (HD.out.below hb1)
        clear hb1
        go_wp2_with fail
        refine (HOX.out _ _ (heap_alloc_new W1 _)).mono ?_
        rintro e W2 ⟨rfl, rfl⟩
        have HB2 := hid (alloc_below HB1.out HB1.out.size (.cells #[.string RS, .string ⟨#[47]⟩] 9))
        have HD2 := hid (HD1.out.below (alloc_below (Below.refl _ W1) (Nat.le_refl _) (.cells #[.string RS, .string ⟨#[47]⟩] 9)))
        go_wp2_with fail
        go_roundw
        case rel => exact ⟨_, o, rfl, by have := HLE.out.2; omega, HD2, HS, HB2⟩
        case measure => exact HM.out HLE.out.1
      by_cases c4 : sgD r = [47, 46, 46]
      · skip
        have es : stepD r o = (orS (rsD r), upD o) := by unfold stepD; rw [if_neg (by rintro (h | h); exact c1 h; exact c2 h), if_neg c3, if_pos c4]
        rw [es] at hstep hlens HM
        have HS := hid hstep.symm
        have HLE := hid hlens
        rw [decide_eq_false c1] at q1
        rw [decide_eq_false c2] at q2
        rw [decide_eq_false c3] at q3
        rw [decide_eq_true c4] at q4
        clear c1 c2 c3 c4 es hstep hlens hsgn hsgl
        rcases HD.out with ⟨rfl, ho⟩ | ⟨g, n, cap, rfl, hown⟩
        · skip
          have HOX : Hid (∀ g W, W.heap[g]? = some (.cells #[.string (asS (rsD r)), .string ⟨#[47]⟩] 9 (0, 0)) → Calls Tryz.prog 26 #[.slice (some ⟨g, 0, none⟩) 2 2] W fun e w' => e = .returned (.string (asS (orS (rsD r)))) ∧ w' = W) := fun g W h => HOR.out (rsD r) [47] g W h
          generalize asS (rsD r) = RS at HC HOX
          generalize asS (sgD r) = G at HC q1 q2 q3 q4
          generalize hS : asS r = S at he HC HM
          clear hS
          have HU : Hid (upD o = []) := by show _ = _; rw [ho]; rfl
          clear ho HD
          go_wp2_with fail
          refine (HC.out _ (HT.out.below HB.out)).mono ?_
          rintro e W1 ⟨rfl, hb1⟩
          have HB1 := hid (HB.out.trans (hb1.mono HB.out.size))
          clear hb1
          go_wp2_with fail
          refine (HOX.out _ _ (heap_alloc_new W1 _)).mono ?_
          rintro e W2 ⟨rfl, rfl⟩
          have HB2 := hid (alloc_below HB1.out HB1.out.size (.cells #[.string RS, .string ⟨#[47]⟩] 9))
          generalize W1.alloc (.cells #[.string RS, .string ⟨#[47]⟩] 9) = W2 at HB2 ⊢
          have hcv : (convert 54 54 (.slice (some ⟨W2.heap.size, 0, none⟩) 1 1)).run Tryz.prog (W2.alloc (.cells #[.int .u8 47] 5)) = .ok (.slice (some ⟨W2.heap.size, 0, none⟩) 1 1) (W2.alloc (.cells #[.int .u8 47] 5 (1, 2))) := Lib.run_convert_bytes_const W2 54 5 #[.int .u8 47] 1 1 Tryz.underlying54 Tryz.underlying5
          go_wp2_with fail
          refine (HLA.out _ (-1) _ _ ⟨_, _, _, rfl⟩ ?_ (HLN.out 0 _)).mono ?_
          · exact cell_of_row _ _ _ _ _ _ (heap_alloc_new W2 _)
          rintro e W3 ⟨rfl, rfl⟩
          have HB3 := hid (alloc_below HB2.out HB2.out.size (.cells #[.int .u8 47] 5 (1, 2)))
          clear hcv
          go_wp2_with fail
          go_roundw
          case rel => exact ⟨_, _, rfl, by have := HLE.out.2; omega, .inl ⟨rfl, HU.out⟩, HS, HB3⟩
          case measure => exact HM.out HLE.out.1
        · skip
          have HOX : Hid (∀ g W, W.heap[g]? = some (.cells #[.string (asS (rsD r)), .string ⟨#[47]⟩] 9 (0, 0)) → Calls Tryz.prog 26 #[.slice (some ⟨g, 0, none⟩) 2 2] W fun e w' => e = .returned (.string (asS (orS (rsD r)))) ∧ w' = W) := fun g W h => HOR.out (rsD r) [47] g W h
          generalize asS (rsD r) = RS at HC HOX
          generalize asS (sgD r) = G at HC q1 q2 q3 q4
          generalize hS : asS r = S at he HC HM
          clear hS
          obtain ⟨k, hk, HK, HU⟩ : ∃ k : Nat, k ≤ n ∧ Hid ((lastI 47 o = -1 ∧ k = 0) ∨ lastI 47 o = (k : Int)) ∧ Hid (upD o = o.take k) := by
            have hon := hown.len
            rcases up_cases o with ⟨e1, e2⟩ | ⟨x, y, rfl, e2, e3⟩
            · exact ⟨0, Nat.zero_le _, .inl ⟨lastI_no 47 o e2, rfl⟩, by show _ = _; rw [e1]; rfl⟩
            · refine ⟨x.length, by rw [List.length_append, List.length_cons] at hon; omega, .inr (lastI_at 47 x y e2), ?_⟩
              show _ = _
              rw [e3]; simp
          have HOWN := hid hown
          have hon : o.length = n := hown.len
          have hncap := hown.le
          have hn : n ≤ 100000 := by omega
          clear hown HD
          have HON := hid hon
          clear hon
          go_wp2_with fail
          refine (HC.out _ (HT.out.below HB.out)).mono ?_
          rintro e W1 ⟨rfl, hb1⟩
          have HB1 := hid (HB.out.trans (hb1.mono HB.out.size))
          have HO1 := hid (HOWN.out.below hb1 (Nat.le_refl _))
          clear hb1
          go_wp2_with fail
          refine (HOX.out _ _ (heap_alloc_new W1 _)).mono ?_
          rintro e W2 ⟨rfl, rfl⟩
          have HB2 := hid (alloc_below HB1.out HB1.out.size (.cells #[.string RS, .string ⟨#[47]⟩] 9))
          have HO2 := hid (HO1.out.alloc (.cells #[.string RS, .string ⟨#[47]⟩] 9))
          generalize W1.alloc (.cells #[.string RS, .string ⟨#[47]⟩] 9) = W2 at HB2 HO2 ⊢
          have hcv : (convert 54 54 (.slice (some ⟨W2.heap.size, 0, none⟩) 1 1)).run Tryz.prog (W2.alloc (.cells #[.int .u8 47] 5)) = .ok (.slice (some ⟨W2.heap.size, 0, none⟩) 1 1) (W2.alloc (.cells #[.int .u8 47] 5 (1, 2))) := Lib.run_convert_bytes_const W2 54 5 #[.int .u8 47] 1 1 Tryz.underlying54 Tryz.underlying5
          go_wp2_with fail
          have HO3 := hid (HO2.out.alloc (.cells #[.int .u8 47] 5 (1, 2)))
          have HB3 := hid (alloc_below HB2.out HB2.out.size (.cells #[.int .u8 47] 5 (1, 2)))
          refine (HLA.out _ (lastI 47 o) _ _ ⟨_, _, _, rfl⟩ ?_ ?_).mono ?_
          · exact cell_of_row _ _ _ _ _ _ (heap_alloc_new W2 _)
          · have := HLB.out o g cap (by have := HON.out; omega) (W2.alloc (.cells #[.int .u8 47] 5 (1, 2))) (fun j hj => by
              obtain ⟨q, oo, e, _, hc⟩ := HO3.out.bytes (by omega)
              cases e
              have := hc j hj
              rwa [Nat.zero_add] at this)
            rw [HON.out] at this
            exact this
          rintro e W3 ⟨rfl, rfl⟩
          have HO4 := hid (HO3.out.cut k hk)
          have hkc : (k : Int) ≤ (cap : Int) := by omega
          generalize W2.alloc (.cells #[.int .u8 47] 5 (1, 2)) = W3 at HB3 HO4 ⊢
          rcases HK.out with ⟨hk1, rfl⟩ | hk1
          · rw [hk1]
            clear hk1 hcv HK HO3 HO2 HO1 HOWN
            go_wp2_with fail
            go_roundw
            case rel => exact ⟨_, _, rfl, by have := HLE.out.2; omega, .inr ⟨g, _, cap, rfl, by rw [HU.out]; exact HO4.out⟩, HS, HB3⟩
            case measure => exact HM.out HLE.out.1
          · rw [hk1]
            have hmx : max (k : Int) 0 = (k : Int) := by omega
            clear hk1 hcv HK HO3 HO2 HO1 HOWN
            go_wp2_with fail
            go_roundw
            case rel => exact ⟨_, _, rfl, by have := HLE.out.2; omega, .inr ⟨g, _, cap, rfl, by rw [HU.out]; exact HO4.out⟩, HS, HB3⟩
            case measure => exact HM.out HLE.out.1
      have es : stepD r o = (rsD r, o ++ sgD r) := by unfold stepD; rw [if_neg (by rintro (h | h); exact c1 h; exact c2 h), if_neg c3, if_neg c4]
      rw [es] at hstep hlens HM
      have HS := hid hstep.symm
      have HLE := hid hlens
      rw [decide_eq_false c1] at q1
      rw [decide_eq_false c2] at q2
      rw [decide_eq_false c3] at q3
      rw [decide_eq_false c4] at q4
      have HGD : Hid ((asS (sgD r)).data.toList = sgD r) := rfl
      have hG0 : (asS (sgD r)).size = (sgD r).length := asS_size _
      have hG1 : 0 < (sgD r).length := List.length_pos_iff.2 hsgn
      clear c1 c2 c3 c4 es hstep hlens hsgn
      generalize hRS : asS (rsD r) = RS at HC HM
      have HRS := hid hRS
      clear hRS
      generalize asS (sgD r) = G at HC q1 q2 q3 q4 HGD hG0
      generalize (sgD r).length = m at hG0 hG1 hsgl
      have HG0 := hid hG0
      clear hG0
      generalize hS : asS r = S at he HC HM
      clear hS
      rcases HD.out with ⟨rfl, ho⟩ | ⟨g, n, cap, rfl, hown⟩
      · have HU : Hid (o ++ sgD r = sgD r) := by show _ = _; rw [ho]; rfl
        clear ho HD
        go_wp2_with fail
        refine (HC.out _ (HT.out.below HB.out)).mono ?_
        rintro e W1 ⟨rfl, hb1⟩
        have HB1 := hid (HB.out.trans (hb1.mono HB.out.size))
        clear hb1
        go_wp2_with (first
          | (refine wpList_app_nil rfl _ _ rfl w.heap.size m G rfl rfl HG0.out hG1 (by omega) HB1.out.size ?_)
          | fail)
        intro cap W2 hown2 hb2
        have HB2 := hid (HB1.out.trans (hb2.mono HB1.out.size))
        have HO2 := hid hown2
        clear hown2 hb2
        go_wp2_with fail
        go_roundw
        case rel => exact ⟨rsD r, o ++ sgD r, by rw [HRS.out], by have := HLE.out.2; omega, .inr ⟨_, _, cap, rfl, by rw [HU.out, ← HGD.out]; exact HO2.out⟩, HS, HB2⟩
        case measure => exact HM.out HLE.out.1
      · have HOWN := hid hown
        have hon : n ≤ 100000 := by have := hown.len; omega
        clear hown HD
        go_wp2_with fail
        refine (HC.out _ (HT.out.below HB.out)).mono ?_
        rintro e W1 ⟨rfl, hb1⟩
        have HB1 := hid (HB.out.trans (hb1.mono HB.out.size))
        have HO1 := hid (HOWN.out.below hb1 (Nat.le_refl _))
        have HSR : Hid (Src Tryz.prog 1 9 (.string G) m (bvs (sgD r)) W1) := by
          have := src_text W1 G
          rw [HG0.out, HGD.out] at this
          exact this
        clear hb1
        go_wp2_with (first
          | (refine wpList_own rfl _ _ 9 rfl w.heap.size g n cap m o (sgD r) (.string G) rfl rfl HO1.out HSR.out (by omega) HB1.out.size ?_)
          | fail)
        intro g2 cap2 W2 hown2 hg2 hor2
        have HB2 := hid (HO1.out.grown HB1.out HB1.out.size hg2)
        have HO2 := hid hown2
        clear hown2 hg2 hor2
        go_wp2_with fail
        go_roundw
        case rel => exact ⟨rsD r, o ++ sgD r, by rw [HRS.out], by have := HLE.out.2; omega, .inr ⟨_, _, cap2, rfl, HO2.out⟩, HS, HB2⟩
        case measure => exact HM.out HLE.out.1
theorem Dots_any (l : List UInt8) (hl : l.length ≤ 2048) (w : World) (hT : TabS w) : Calls Tryz.prog 6 #[.string (asS l)] w fun e w' => e = .returned (.string (asS (dotsU l))) ∧ Below w.heap.size w w' := by
  have HW := hid (without_any l (by omega) w hT)
  have hsz : ¬ (2048 : Int) < ((asS l).size : Int) := by rw [asS_size]; omega
  generalize asS (dotsU l) = R at HW ⊢
  generalize asS l = S at HW hsz ⊢
  clear hT
  go_enter Tryz.func6, Tryz.ntmps6
  go_wp2_with fail
  refine HW.out.mono ?_
  rintro e W ⟨rfl, hb⟩
  have HB := hid hb
  clear hb
  go_wp2_with fail
  go_ret
  exact ⟨rfl, HB.out⟩
theorem clone8 (s : ByteArray) (hs : s.size ≤ 281474976710656) (w : World) : Calls Tryz.prog 19 #[.string s] w fun e w' => e = .returned (.string s) ∧ Below w.heap.size w w' := by
  have HC := hid (fun W => Tryz.stringslite_Clone s W hs)
  clear hs
  go_enter Tryz.func19, Tryz.ntmps19
  go_wp2_with fail
  refine (HC.out _).mono ?_
  rintro e W ⟨rfl, hb⟩
  go_wp2_with fail
  go_ret
  exact ⟨rfl, hb⟩
theorem Dots_long (s : ByteArray) (h1 : 2048 < s.size) (hs : s.size ≤ 281474976710656) (w : World) : Calls Tryz.prog 6 #[.string s] w fun e w' => e = .returned (.string s) ∧ Below w.heap.size w w' := by
  have HC := hid (clone8 s hs w)
  have hsz : (2048 : Int) < (s.size : Int) := by omega
  go_enter Tryz.func6, Tryz.ntmps6
  go_wp2_with fail
  refine HC.out.mono ?_
  rintro e W ⟨rfl, hb⟩
  have HB := hid hb
  clear hb
  go_wp2_with fail
  go_ret
  exact ⟨rfl, HB.out⟩
end Go.Proofs.YtlblefcmilfjdaaGreatDoor
