
/- What url.Print and url.Check do. -/
import Derived.Test.YtlblefcmilfjdaaGreatDoorUrTog
import Derived.Test.YtlblefcmilfjdaaGreatDoorUrPar
namespace Go.Proofs.YtlblefcmilfjdaaGreatDoor
set_option linter.unusedVariables false
set_option linter.unusedSimpArgs false
open Go.RowKit Go.BigFrame
attribute [local go_sem ↓] loadU_eq

def prOk (u : UrlV) : Bool := decide (puE (joinU u) = 0) && eqUV (puV (joinU u)) u
def prS (u : UrlV) : ByteArray := if prOk u then asS (joinU u) else ⟨#[]⟩
def prE (u : UrlV) : Int := if prOk u then 0 else 1
theorem join_len (u : UrlV) (h : LenU 100000 u) : (joinU u).length ≤ 1000000 := by
  have h1 := h.scheme; have h2 := h.user; have h3 := h.host; have h4 := h.port; have h5 := h.path; have h6 := h.query; have h7 := h.frag
  have k : ∀ (b : Prop) [Decidable b] (x : List UInt8), (if b then x else []).length ≤ x.length := fun b _ x => by split <;> simp
  have k2 : ∀ (b : Prop) [Decidable b] (x : List UInt8), (if b then [] else x).length ≤ x.length := fun b _ x => by split <;> simp
  unfold joinU
  simp only [List.length_append]
  have a1 := k2 (u.scheme = []) (u.scheme ++ [58])
  have a2 := k (u.hasAuth = true) [47, 47]
  have a3 := k (u.hasUser = true) (u.user ++ [64])
  have a4 := k (u.hasPort = true) (58 :: u.port)
  have a5 := k (u.hasQuery = true) (63 :: u.query)
  have a6 := k (u.hasFrag = true) (35 :: u.frag)
  simp only [List.length_append, List.length_cons, List.length_nil] at a1 a2 a3 a4 a5 a6
  omega
theorem puE_three (l : List UInt8) : puE l = 0 ∨ puE l = 3 ∨ puE l = 5 := by
  unfold puE
  split
  · exact .inr (.inl rfl)
  · split
    · exact .inl rfl
    · exact .inr (.inr rfl)
set_option maxHeartbeats 4000000 in
set_option maxRecDepth 100000 in
theorem print_any (u : UrlV) (hu : LenU 100000 u) (w : World) (hT : TabS w) : Calls Tryz.prog 38 #[.agg (ucs u)] w fun e w' => e = .returned (.tuple #[.string (prS u), .int .i64 (prE u)]) ∧ Below w.heap.size w w' := by
  have HTO := hid (fun W => together_any u hu W)
  have HPA := hid (fun W h => parseUrl_any (joinU u) (join_len u hu) W h)
  have HOK : Hid (prOk u = (decide (puE (joinU u) = 0) && eqUV (puV (joinU u)) u)) := rfl
  have HS : Hid (prS u = if prOk u then asS (joinU u) else ⟨#[]⟩) := rfl
  have HE : Hid (prE u = if prOk u then 0 else 1) := rfl
  have h3 := puE_three (joinU u)
  have hq := fun (W : World) => eqU (puV (joinU u)) u W
  have hg := guardU
  generalize prS u = RS at HS ⊢
  generalize prE u = RE at HE ⊢
  generalize prOk u = ok at HOK HS HE
  generalize asS (joinU u) = S at HTO HPA HS
  generalize puE (joinU u) = E at HPA HOK h3
  generalize puV (joinU u) = V at HPA HOK hq
  generalize hb : eqUV V u = eb at HOK hq
  have HT := hid hT
  clear hb hT hu
  have l0 : (loadI 26 (.pointer (some ⟨w.heap.size, 0, none⟩))).run Tryz.prog (w.alloc (.cells (ucs u) 26)) = .ok (.agg (ucs u)) (w.alloc (.cells (ucs u) 26)) := loadU_row (heap_alloc_new w _)
  go_enter Tryz.func38, Tryz.ntmps38
  go_wp2_with fail
  refine (HTO.out _).mono ?_
  rintro e W1 ⟨rfl, hb1⟩
  have HR1 := hid (row_keep hb1 (heap_alloc_new w _))
  have HB1 : Hid (Below w.heap.size w W1) := (alloc_below (Below.refl _ w) (Nat.le_refl _) _).trans (hb1.mono (by simp))
  clear hb1 l0
  go_wp2_with fail
  refine (HPA.out _ (HT.out.below HB1.out)).mono ?_
  rintro e W2 ⟨rfl, hb2⟩
  have HR2 := hid (row_keep hb2 HR1.out)
  have HB2 : Hid (Below w.heap.size w W2) := HB1.out.trans (hb2.mono HB1.out.size)
  clear hb2
  go_wp2_with (first
    | (refine store_url rfl _ _ rfl W2.heap.size V rfl rfl _ (heap_alloc_new W2 _) rfl ?_)
    | fail)
  intro W3 hO3 hW3
  have HB3 : Hid (Below w.heap.size w W3) := (alloc_below HB2.out HB2.out.size _).trans (hO3.below HB2.out.size)
  have l1 := loadU_row hW3
  have l2 := loadU_row ((hO3.block _ (by have := row_lt HR2.out; omega)).trans ((Below.heap_alloc _ _ _ (row_lt HR2.out)).trans HR2.out))
  clear hO3 hW3
  generalize ucs V = UV at hq l1 ⊢
  generalize ucs u = UU at hq l2 ⊢
  rcases h3 with rfl | rfl | rfl
  · cases eb with
    | true =>
      have HQ : Hid (ok = true) := HOK.out
      go_wp2_with fail
      go_ret2
      exact ⟨by rw [HS.out, HE.out, HQ.out]; rfl, HB3.out⟩
    | false =>
      have HQ : Hid (ok = false) := HOK.out
      go_wp2_with fail
      go_ret2
      exact ⟨by rw [HS.out, HE.out, HQ.out]; rfl, HB3.out⟩
  · have HQ : Hid (ok = false) := HOK.out
    clear hq l1 l2 hg
    go_wp2_with fail
    go_ret2
    exact ⟨by rw [HS.out, HE.out, HQ.out]; rfl, HB3.out⟩
  · have HQ : Hid (ok = false) := HOK.out
    clear hq l1 l2 hg
    go_wp2_with fail
    go_ret2
    exact ⟨by rw [HS.out, HE.out, HQ.out]; rfl, HB3.out⟩
theorem check_any7 (u : UrlV) (hu : LenU 100000 u) (w : World) (hT : TabS w) : Calls Tryz.prog 30 #[.agg (ucs u)] w fun e w' => e = .returned (.int .i64 (prE u)) ∧ Below w.heap.size w w' := by
  have HP := hid (fun W h => print_any u hu W h)
  have HT := hid hT
  generalize prS u = RS at HP
  generalize prE u = RE at HP ⊢
  clear hT hu
  have l0 : (loadI 26 (.pointer (some ⟨w.heap.size, 0, none⟩))).run Tryz.prog (w.alloc (.cells (ucs u) 26)) = .ok (.agg (ucs u)) (w.alloc (.cells (ucs u) 26)) := loadU_row (heap_alloc_new w _)
  go_enter Tryz.func30, Tryz.ntmps30
  go_wp2_with fail
  refine (HP.out _ (HT.out.below (alloc_below (Below.refl _ w) (Nat.le_refl _) _))).mono ?_
  rintro e W1 ⟨rfl, hb1⟩
  have HB1 : Hid (Below w.heap.size w W1) := (alloc_below (Below.refl _ w) (Nat.le_refl _) _).trans (hb1.mono (by simp))
  clear hb1 l0
  go_wp2_with fail
  go_ret
  exact ⟨rfl, HB1.out⟩
end Go.Proofs.YtlblefcmilfjdaaGreatDoor
