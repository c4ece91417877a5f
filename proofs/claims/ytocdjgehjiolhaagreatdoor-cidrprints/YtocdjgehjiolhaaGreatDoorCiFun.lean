
/- What the library's IndexFunc and ContainsFunc at nets do, and cidr.among. -/
import Derived.Test.YtocdjgehjiolhaaGreatDoorCiHas
namespace Go.Proofs.YtocdjgehjiolhaaGreatDoor
open Go.RowKit Go.BigFrame
attribute [local go_sem ↓] loadA_eq loadN_eq

/-- The first net of which p holds; -1: none. -/
def idxN (p : NetV → Bool) (l : List NetV) : Int := match l.findIdx? p with
  | some j => (j : Int)
  | none => -1
theorem idxN_hit (p : NetV → Bool) (l : List NetV) (k : Nat) (n : NetV) (hn : l[k]? = some n) (hp : p n = true) (hb : (l.take k).any p = false) : idxN p l = (k : Int) := by
  have : l.findIdx? p = some k := by
    rw [List.findIdx?_eq_some_iff_getElem]
    have hk : k < l.length := (List.getElem?_eq_some_iff.1 hn).1
    refine ⟨hk, ?_, fun j hj => ?_⟩
    · rw [(List.getElem?_eq_some_iff.1 hn).2]; exact hp
    · have := List.any_eq_false.1 hb l[j] (by
        rw [List.mem_take_iff_getElem]
        exact ⟨j, by omega, rfl⟩)
      simpa using this
  unfold idxN
  rw [this]
theorem idxN_miss (p : NetV → Bool) (l : List NetV) (hb : l.any p = false) : idxN p l = -1 := by
  have : l.findIdx? p = none := by
    rw [List.findIdx?_eq_none_iff]
    intro x hx
    have := List.any_eq_false.1 hb x hx
    simpa using this
  unfold idxN
  rw [this]
theorem idxN_any (p : NetV → Bool) (l : List NetV) : decide (0 ≤ idxN p l) = l.any p := by
  unfold idxN
  cases h : l.findIdx? p with
  | none =>
    rw [List.findIdx?_eq_none_iff] at h
    have : l.any p = false := List.any_eq_false.2 fun x hx => by rw [h x hx]; simp
    rw [this]; rfl
  | some j =>
    obtain ⟨h1, h2, _⟩ := List.findIdx?_eq_some_iff_getElem.1 h
    have : l.any p = true := List.any_eq_true.2 ⟨l[j], List.getElem_mem h1, h2⟩
    rw [this]
    simp
theorem any_snoc (p : NetV → Bool) (l : List NetV) (k : Nat) (n : NetV) (hn : l[k]? = some n) : (l.take (k + 1)).any p = ((l.take k).any p || p n) := by
  have hk : k < l.length := (List.getElem?_eq_some_iff.1 hn).1
  rw [List.take_succ_eq_append_getElem hk, List.any_append, (List.getElem?_eq_some_iff.1 hn).2]
  simp
theorem loadN_range {w : World} {b o : Nat} {n : NetV} (hB : n.B.length = 16) (h : w.rangeAt b o (nvs n)) : (loadI 26 (.pointer (some ⟨b, o, none⟩))).run Tryz.prog w = .ok (.agg (ncs n)) w :=
  run_loadAt_mid w b o 26 (nvs n) _ h Tryz.underlying26 rfl (by rw [ncs_info n hB]; simp [ncs])
set_option maxHeartbeats 1000000 in
theorem index_nil (g : Nat) (lb : Array Value) (p : NetV → Bool) (P : Option Addr) (c : Nat) (w : World) : Calls Tryz.prog 57 #[.slice P 0 c, .func (.func g) #[] lb] w fun e w' => e = .returned (.int .i64 (idxN p [])) ∧ Below w.heap.size w w' := by
  go_enter Tryz.func57, Tryz.ntmps57
  go_wp2_with fail
  go_loop [5, 8] (fun _ iv => iv = .int .i64 0) (fun _ _ => 0)
  case atStart => rfl
  case round =>
    subst hrel
    go_wp2_with fail
    go_ret
    exact ⟨rfl, Below.refl _ _⟩
set_option maxHeartbeats 2000000 in
theorem index_any (g : Nat) (lb : Array Value) (p : NetV → Bool) (l : List NetV) (eg : ∀ args w, (callFunc g args).run Tryz.prog w = .ok (.enter g args) w) (hl : l.length ≤ 1000000) (hl16 : ∀ n ∈ l, n.B.length = 16) (b off c : Nat) (w : World) (hb : b < w.heap.size)
    (hc : ∀ j n, l[j]? = some n → w.rangeAt b (off + j * 18) (nvs n)) (hp : PredN g lb p l w) : Calls Tryz.prog 57 #[.slice (some ⟨b, off, none⟩) l.length c, .func (.func g) #[] lb] w fun e w' => e = .returned (.int .i64 (idxN p l)) ∧ Below w.heap.size w w' := by
  have HP := hid hp
  have HLO : Hid (∀ W, Below w.heap.size w W → ∀ j n, l[j]? = some n → (loadI 26 (.pointer (some ⟨b, off + j * 18, none⟩))).run Tryz.prog W = .ok (.agg (ncs n)) W) := fun W hW j n hn => by
    refine loadN_range (hl16 n (List.mem_of_getElem? hn)) fun i v hv => ?_
    rw [hW.cell (p := ⟨b, off + j * 18 + i, none⟩) hb]
    exact hc j n hn i v hv
  have HAT : Hid (∀ k, k < l.length → ∃ n, l[k]? = some n ∧ n ∈ l) := fun k hk => ⟨l[k], List.getElem?_eq_getElem hk, List.getElem_mem hk⟩
  have HHIT := hid (idxN_hit p l)
  have HMISS := hid (idxN_miss p l)
  have HSN := hid (any_snoc p l)
  have HEND : Hid (l.take l.length = l) := List.take_length
  generalize idxN p l = R at HHIT HMISS ⊢
  clear hp hc hl16
  obtain ⟨m, hm⟩ : ∃ m, m = l.length := ⟨_, rfl⟩
  rw [← hm] at hl HAT HEND ⊢
  clear hm
  go_enter Tryz.func57, Tryz.ntmps57
  go_wp2_with fail
  go_loopw [5, 8] (fun _ iv wr => ∃ k : Nat, k ≤ m ∧ iv = .int .i64 (k : Int) ∧ Hid (Below w.heap.size w wr) ∧ Hid ((l.take k).any p = false)) (fun _ i _ => m - (intOf i).toNat)
  case atStart => exact ⟨0, by omega, rfl, Below.refl _ _, rfl⟩
  case round =>
    obtain ⟨k, hk, rfl, HB, HA⟩ := hrel
    by_cases hkm : (k : Int) < (m : Int)
    · obtain ⟨n, hn, hmem⟩ := HAT.out k (by omega)
      have HN := hid hn
      have hlo := HLO.out wr HB.out k n hn
      have HCL := hid (HP.out n hmem wr HB.out)
      clear hn
      generalize ncs n = X at hlo HCL
      cases hq : p n with
      | true =>
        have HR := hid (HHIT.out k n HN.out hq HA.out)
        rw [hq] at HCL
        clear hq
        go_wp2_with (go_at_fn g; refine HCL.out.mono ?_; rintro e w' ⟨rfl, hb'⟩)
        go_ret
        exact ⟨by rw [HR.out]; rfl, HB.out.trans (hb'.mono HB.out.size)⟩
      | false =>
        have HNX : Hid ((l.take (k + 1)).any p = false) := by show _ = _; rw [HSN.out k n HN.out, HA.out, hq]; rfl
        rw [hq] at HCL
        clear hq
        go_wp2_with (go_at_fn g; refine HCL.out.mono ?_; rintro e w' ⟨rfl, hb'⟩)
        go_roundw
        case rel => exact ⟨k + 1, by omega, by go_num, HB.out.trans (hb'.mono HB.out.size), HNX⟩
        case measure => simp [intOf]; omega
    · have hk' : k = m := by omega
      subst hk'
      rw [HEND.out] at HA
      have HR := hid (HMISS.out HA.out)
      go_wp2_with fail
      go_ret
      exact ⟨by rw [HR.out]; rfl, HB.out⟩
end Go.Proofs.YtocdjgehjiolhaaGreatDoor
