
/- The reader of a whole text, and what catches what it throws. -/
import Derived.Test.YtlgkbdebpnbndaaGreatDoorJsValue
import Derived.Defers
import Derived.Recover
namespace Go.Proofs.YtlgkbdebpnbndaaGreatDoor
set_option linter.unusedVariables false
set_option linter.unusedSimpArgs false
open Go.RowKit Go.BigFrame
attribute [local go_sem ↓] mkErr

/-- A whole text, but for how long it may be and which runes it may have. -/
def fileJ (s : List UInt8) : Except Nat (VJ 40) := match valJ 40 0 s 0 with
  | .error e => .error e
  | .ok (t, l, _) => if (l.dropWhile whX).isEmpty then .ok t else .error 5
theorem par_file (s : List UInt8) : parJ s = if 65536 < s.length then .error 3 else if !V s then .error 5 else fileJ s := rfl
/-- What is thrown is one of the document's errors. -/
def FileP (s : List UInt8) (R : Nat) (w : World) (e : Ending) (w' : World) : Prop :=
  (∀ t, fileJ s = .ok t → ∃ cs, e = .returned (.agg cs) ∧ VAt (fun q => w.heap.size ≤ q) 40 w' cs t) ∧ (∀ k, fileJ s = .error k → e = dieJ k) ∧ w.grownBy w' (some R)
theorem FileP.err {s : List UInt8} {R : Nat} {w w' : World} {k : Nat} (h : fileJ s = .error k) (hg : w.grownBy w' (some R)) : FileP s R w (dieJ k) w' := ⟨(fun t h2 => by rw [h] at h2; cases h2), (fun k2 h2 => by rw [h] at h2; injection h2 with h2; rw [h2]), hg⟩
theorem FileP.got {s : List UInt8} {R : Nat} {w w' : World} {t : VJ 40} {cs : Array Value} (h : fileJ s = .ok t) (hv : VAt (fun q => w.heap.size ≤ q) 40 w' cs t) (hg : w.grownBy w' (some R)) : FileP s R w (.returned (.agg cs)) w' := ⟨(fun t2 h2 => by rw [h] at h2; injection h2 with h2; subst h2; exact ⟨cs, rfl, hv⟩), (fun k2 h2 => by rw [h] at h2; cases h2), hg⟩
theorem vcs_one {P : Nat → Prop} {d : Nat} {w : World} {cs : Array Value} {t : VJ d} (h : VAt P d w cs t) : cs.all (·.oneCell') = true := by
  obtain ⟨kA, kc, nA, nc, rfl, _⟩ := h.parts
  exact vcs_all _ _ _ _ _ _ _ _ _
def ZV : Obj := .cells #[.int .i64 0, .int .i64 0, .string ⟨#[]⟩, .slice none 0 0, .slice none 0 0] 25 (0, 0)
set_option maxHeartbeats 4000000 in
set_option maxRecDepth 100000 in
theorem file_j (l : List UInt8) (R : Nat) (w : World) (hl : l.length ≤ 100000) (hR : 7 < R) (hT : TabJ w) (h : Rj w R l 0 0) : Calls Tryz.prog 36 #[.pointer (some ⟨R, 0, none⟩)] w (FileP l R w) := by
  have HB := hid ((Below.refl w.heap.size w).alloc (Nat.le_refl _) (.cells #[.int .i64 0, .int .i64 0, .string ⟨#[]⟩, .slice none 0 0, .slice none 0 0] 25))
  have HV := hid (value_ok 40 0 (by omega) (by omega) l 0 R _ hl (by omega) hR (hT.below HB.out) (h.below HB.out))
  have HQ := hid (heap_alloc_new w (.cells #[.int .i64 0, .int .i64 0, .string ⟨#[]⟩, .slice none 0 0, .slice none 0 0] 25))
  have hRw := h.lt
  have HFJ := hid (show fileJ l = _ from rfl)
  have hzw : w.heap.size < (w.alloc (.cells #[.int .i64 0, .int .i64 0, .string ⟨#[]⟩, .slice none 0 0, .slice none 0 0] 25)).heap.size := by show _ < (Array.push _ _).size; rw [Array.size_push]; omega
  have HZ := hid hzw
  clear h hT hzw
  cases hv : valJ 40 0 l 0 with
  | error k =>
    have HE : Hid (fileJ l = .error k) := by show _ = _; unfold fileJ; rw [hv]
    have HV2 : Hid (Calls Tryz.prog 63 #[.pointer (some ⟨R, 0, none⟩)] (w.alloc (.cells #[.int .i64 0, .int .i64 0, .string ⟨#[]⟩, .slice none 0 0, .slice none 0 0] 25)) fun e w' => e = dieJ k ∧ (w.alloc (.cells #[.int .i64 0, .int .i64 0, .string ⟨#[]⟩, .slice none 0 0, .slice none 0 0] 25)).grownBy w' (some R)) := HV.out.mono fun e w' hh => ⟨hh.2.1 k hv, hh.2.2⟩
    clear HV hv HFJ
    go_enter Tryz.func36, Tryz.ntmps36
    go_wp2_with fail
    refine HV2.out.mono ?_
    rintro e W ⟨rfl, hg⟩
    exact ⟨rfl, FileP.err HE.out ((to_below HB.out).trans hg)⟩
  | ok q =>
    obtain ⟨t, l2, m⟩ := q
    have HV2 : Hid (Calls Tryz.prog 63 #[.pointer (some ⟨R, 0, none⟩)] (w.alloc (.cells #[.int .i64 0, .int .i64 0, .string ⟨#[]⟩, .slice none 0 0, .slice none 0 0] 25)) fun e w' => ∃ x cs, e = .returned x ∧ Hid (AnyJ x cs) ∧ Hid (VAt (fun q => (w.alloc (.cells #[.int .i64 0, .int .i64 0, .string ⟨#[]⟩, .slice none 0 0, .slice none 0 0] 25)).heap.size ≤ q) 40 w' cs t) ∧ Hid (Rj w' R l2 m 0) ∧ Hid ((w.alloc (.cells #[.int .i64 0, .int .i64 0, .string ⟨#[]⟩, .slice none 0 0, .slice none 0 0] 25)).grownBy w' (some R))) := HV.out.mono fun e w' hh => by
      obtain ⟨x, cs, h1, h2, h3, h4⟩ := hh.1 t l2 m hv
      exact ⟨x, cs, h1, h2, h3, h4, hh.2.2⟩
    have HW := hid (fun W (hW : Rj W R l2 m 0) => white_j l2 m 0 R W hW)
    have HE : Hid (fileJ l = if (l2.dropWhile whX).isEmpty then .ok t else .error 5) := by show _ = _; unfold fileJ; rw [hv]
    clear HV hv HFJ
    generalize l2.dropWhile whX = l3 at HW HE
    go_enter Tryz.func36, Tryz.ntmps36
    go_wp2_with fail
    refine HV2.out.mono ?_
    rintro e W1 ⟨x, cs, rfl, HA, HV1, HR1, HG1⟩
    have HW1 := hid (HW.out W1 HR1.out)
    clear HW HV2
    go_wp2_with fail
    refine HW1.out.mono ?_
    rintro e W2 ⟨rfl, hr, hg⟩
    have HR2 := hid hr
    have HV2 := hid (HV1.out.to hg (fun q hq e => by have := HZ.out; omega))
    have HG2 := hid (HG1.out.trans hg)
    obtain ⟨c0, _, _⟩ := hr.cells
    clear hr hg HW1 HV1 HG1 HR1
    cases l3 with
    | cons c r =>
      have hq : ((asS (c :: r)).toList == []) = false := by rw [tl_eq]; simp
      have HE2 : Hid (fileJ l = .error 5) := HE.out
      clear HE
      generalize asS (c :: r) = L at c0 hq
      go_wp2_with fail
      exact ⟨rfl, FileP.err HE2.out ((to_below HB.out).trans HG2.out)⟩
    | nil =>
      have hq : ((asS []).toList == []) = true := by rw [tl_eq]; rfl
      have HE2 : Hid (fileJ l = .ok t) := HE.out
      have HTO := hid (fun W => told_any x cs HA.out W)
      have HQ2 := hid (to_row HG2.out HQ.out (by omega))
      clear HE HA HQ
      generalize asS [] = L at *
      go_wp2_with fail
      refine (HTO.out W2).mono ?_
      rintro e W3 ⟨rfl, hb⟩
      have HB3 := hid hb
      have HQ3 := hid (row_keep hb HQ2.out)
      have HV3 := hid (HV2.out.below hb (Nat.le_refl _))
      clear hb HQ2 HV2
      go_wp2_with (first
        | (refine wpList_store_abs rfl 25 (.tmp 2) (.tmp 15) rfl w.heap.size 0 cs rfl rfl 25 _ HQ3.out (by rw [HV3.out.size]; exact Nat.le_refl _) (by rw [HV3.out.size]; exact infoVj) (vcs_one HV3.out) ?_; intro W9 hO9 hW9)
        | fail)
      rw [over_whole #[.int .i64 0, .int .i64 0, .string ⟨#[]⟩, .slice none 0 0, .slice none 0 0] cs (by rw [HV3.out.size]; rfl)] at hW9
      refine bodyPost_ret (ret_v (p := 2) Tryz.results36 _ _ w.heap.size cs HV3.out.size (0, 0) rfl hW9) rfl (FileP.got HE2.out (HV3.out.frame (Nat.le_of_eq hO9.size.symm) fun q hq hl => ⟨hO9.block q (fun e => by have := HZ.out; omega), by have := HZ.out; omega⟩) ?_)
      exact grow_own (((to_below HB.out).trans HG2.out).trans (to_below HB3.out)) (grown_of_only hO9) (fun q e => by injection e with e; omega)
end Go.Proofs.YtlgkbdebpnbndaaGreatDoor
