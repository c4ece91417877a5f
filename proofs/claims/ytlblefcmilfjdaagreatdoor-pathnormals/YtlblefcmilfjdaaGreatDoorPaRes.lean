
/- What path.size, path.merged, path.against and path.Resolve do. -/
import Derived.Test.YtlblefcmilfjdaaGreatDoorPaPort
import Derived.Lib.QuietBelow
import Derived.Deep.Cut
namespace Go.Proofs.YtlblefcmilfjdaaGreatDoor
set_option linter.unusedVariables false
set_option linter.unusedSimpArgs false
open Go.RowKit Go.BigFrame
attribute [local go_sem ↓] loadU_eq

def addN (has : Bool) (m p : Nat) : Nat := if has then m + p else 0
set_option maxHeartbeats 4000000 in
set_option maxRecDepth 100000 in
theorem add_any (has : Bool) (m : ByteArray) (k : Nat) (hk : m.size = k) (x : List UInt8) (g n : Nat) (w : World) (hn : n ≤ 1000000) (hm : k ≤ 100) (hp : x.length ≤ 100000) (hc : w.cell? ⟨g, 0, none⟩ = some (.int .i64 (n : Int))) (hf : w.frozen? ⟨g, 0, none⟩ = false) :
    Calls Tryz.prog 62 #[.bool has, .string m, .string (asS x), .pointer (some ⟨g, 0, none⟩)] w fun e w' => e = .returned (.tuple #[]) ∧ w'.cell? ⟨g, 0, none⟩ = some (.int .i64 ((n + addN has k x.length : Nat) : Int)) ∧ w'.frozen? ⟨g, 0, none⟩ = false ∧ Only g w w' := by
  have HC := hid hc
  have HF := hid hf
  have hz := asS_size x
  cases has with
  | false =>
    clear hc hf hk hz
    go_enter Tryz.func62, Tryz.ntmps62
    go_wp2_with fail
    go_end0
    exact ⟨rfl, HC.out, HF.out, ⟨rfl, rfl, rfl, rfl, fun _ _ => rfl⟩⟩
  | true =>
    have HE : Hid ((n : Int) + ((m.size : Int) + ((asS x).size : Int)) = ((n + (k + x.length) : Nat) : Int)) := by show _ = _; omega
    have h3 : (m.size : Int) + ((asS x).size : Int) ≤ 200000 := by omega
    have HK : Hid (addN true k x.length = k + x.length) := rfl
    have hm0 : (0 : Int) ≤ (m.size : Int) + ((asS x).size : Int) := by omega
    rw [HK.out]
    clear hk hz
    generalize asS x = X at HE h3 hm0 ⊢
    go_enter Tryz.func62, Tryz.ntmps62
    go_wp2_with fail
    go_end0
    refine ⟨rfl, ?_, ?_, only_set g 0 _ w⟩
    · rw [World.cell?_setCell_same w _ _ HC.out]
      exact congrArg (fun z => some (Value.int .i64 z)) HE.out
    · rw [World.frozen?_setCell]; exact HF.out
def sizeU (u : UrlV) : Nat := u.scheme.length + 1 + addN u.hasAuth 2 u.host.length + addN u.hasUser 1 u.user.length + addN u.hasPort 1 u.port.length + addN true 0 u.path.length + addN u.hasQuery 1 u.query.length + addN u.hasFrag 1 u.frag.length
theorem addN_le (b : Bool) (m p n : Nat) (h : p ≤ n) : addN b m p ≤ m + n := by unfold addN; split <;> omega
set_option maxHeartbeats 8000000 in
set_option maxRecDepth 100000 in
theorem size_any (u : UrlV) (hu : LenU 100000 u) (w : World) : Calls Tryz.prog 37 #[.agg (ucs u)] w fun e w' => e = .returned (.int .i64 (sizeU u : Int)) ∧ Below w.heap.size w w' := by
  have HAD := hid add_any
  have HSZ : Hid (sizeU u = u.scheme.length + 1 + addN u.hasAuth 2 u.host.length + addN u.hasUser 1 u.user.length + addN u.hasPort 1 u.port.length + addN true 0 u.path.length + addN u.hasQuery 1 u.query.length + addN u.hasFrag 1 u.frag.length) := rfl
  have HL := hid hu
  have H1 := hid (addN_le u.hasAuth 2 _ _ hu.host)
  have H2 := hid (addN_le u.hasUser 1 _ _ hu.user)
  have H3 := hid (addN_le u.hasPort 1 _ _ hu.port)
  have H4 := hid (addN_le true 0 _ _ hu.path)
  have H5 := hid (addN_le u.hasQuery 1 _ _ hu.query)
  have H6 := hid (addN_le u.hasFrag 1 _ _ hu.frag)
  have hs := hu.scheme
  have z0 := asS_size u.scheme
  have hsz1 : (asS u.scheme).size ≤ 100000 := by omega
  have HZ0 : Hid (((asS u.scheme).size : Int) + 1 = ((u.scheme.length + 1 : Nat) : Int)) := by show _ = _; omega
  clear z0 hs hu
  generalize sizeU u = SZ at HSZ ⊢
  have HR : Hid (∀ W : World, Below (w.heap.size + 1) (w.alloc (.cells (ucs u) 26)) W → W.heap[w.heap.size]? = some (.cells (ucs u) 26 (0, 0))) := fun W h => (h.block w.heap.size (by omega)).trans (heap_alloc_new w _)
  have HA : Hid (∀ o, Below (w.heap.size + 1) (w.alloc (.cells (ucs u) 26)) ((w.alloc (.cells (ucs u) 26)).alloc o)) := fun o => alloc_below (Below.refl _ _) (by simp) o
  have c0 : (w.alloc (.cells (ucs u) 26)).cell? ⟨w.heap.size, 0, none⟩ = some (.string (asS u.scheme)) := cellU (heap_alloc_new w _) 0 _ rfl
  have c6 : ∀ o, ((w.alloc (.cells (ucs u) 26)).alloc o).cell? ⟨w.heap.size, 6, none⟩ = some (.bool u.hasAuth) := fun o => cellU (HR.out _ (HA.out o)) 6 _ rfl
  have c3 : ∀ o, ((w.alloc (.cells (ucs u) 26)).alloc o).cell? ⟨w.heap.size, 3, none⟩ = some (.string (asS u.host)) := fun o => cellU (HR.out _ (HA.out o)) 3 _ rfl
  have HB : Hid (∀ W : World, Below (w.heap.size + 1) (w.alloc (.cells (ucs u) 26)) W → Below w.heap.size w W) := fun W h => (alloc_below (Below.refl _ w) (Nat.le_refl _) _).trans (h.mono (by omega))
  go_enter Tryz.func37, Tryz.ntmps37
  go_wp2_with fail
  refine (HAD.out u.hasAuth ⟨#[47, 47]⟩ 2 rfl u.host (w.heap.size + 1) (u.scheme.length + 1) _ (by have := HL.out.scheme; omega) (by omega) HL.out.host ?_ ?_).mono ?_
  · have := cell_of_row _ _ 0 _ _ _ (heap_second w (.cells (ucs u) 26) (.cells #[.int .i64 (((asS u.scheme).size : Int) + 1)] 3))
    rw [this, HZ0.out]; rfl
  · exact Joins.unfrozen_of_block (heap_second w (.cells (ucs u) 26) (.cells #[.int .i64 (((asS u.scheme).size : Int) + 1)] 3)) 0
  rintro e W1 ⟨rfl, hc1, hf1, hO1⟩
  have HB1 : Hid (Below (w.heap.size + 1) (w.alloc (.cells (ucs u) 26)) W1) := (HA.out _).trans (hO1.below (Nat.le_refl _))
  have HC1 := hid hc1
  have HF1 := hid hf1
  clear c0 c6 c3 hO1 hc1 hf1
  have hr1 := HR.out _ HB1.out
  have d1a := cellU hr1 2 (.bool u.hasUser) rfl
  have d1b := cellU hr1 1 (.string (asS u.user)) rfl
  clear hr1
  go_wp2_with fail
  refine (HAD.out u.hasUser ⟨#[64]⟩ 1 rfl u.user (w.heap.size + 1) _ _ (by have h1 := H1.out; have h2 := H2.out; have h3 := H3.out; have h4 := H4.out; have h5 := H5.out; have := HL.out.scheme; omega) (by omega) HL.out.user HC1.out HF1.out).mono ?_
  rintro e W2 ⟨rfl, hc2, hf2, hO2⟩
  have HB2 : Hid (Below (w.heap.size + 1) (w.alloc (.cells (ucs u) 26)) W2) := HB1.out.trans (hO2.below (Nat.le_refl _))
  have HC2 := hid hc2
  have HF2 := hid hf2
  clear d1a d1b hO2 hc2 hf2
  have hr2 := HR.out _ HB2.out
  have d2a := cellU hr2 5 (.bool u.hasPort) rfl
  have d2b := cellU hr2 4 (.string (asS u.port)) rfl
  clear hr2
  go_wp2_with fail
  refine (HAD.out u.hasPort ⟨#[58]⟩ 1 rfl u.port (w.heap.size + 1) _ _ (by have h1 := H1.out; have h2 := H2.out; have h3 := H3.out; have h4 := H4.out; have h5 := H5.out; have := HL.out.scheme; omega) (by omega) HL.out.port HC2.out HF2.out).mono ?_
  rintro e W3 ⟨rfl, hc3, hf3, hO3⟩
  have HB3 : Hid (Below (w.heap.size + 1) (w.alloc (.cells (ucs u) 26)) W3) := HB2.out.trans (hO3.below (Nat.le_refl _))
  have HC3 := hid hc3
  have HF3 := hid hf3
  clear d2a d2b hO3 hc3 hf3
  have hr3 := HR.out _ HB3.out
  have d3b := cellU hr3 7 (.string (asS u.path)) rfl
  clear hr3
  go_wp2_with fail
  refine (HAD.out true ⟨#[]⟩ 0 rfl u.path (w.heap.size + 1) _ _ (by have h1 := H1.out; have h2 := H2.out; have h3 := H3.out; have h4 := H4.out; have h5 := H5.out; have := HL.out.scheme; omega) (by omega) HL.out.path HC3.out HF3.out).mono ?_
  rintro e W4 ⟨rfl, hc4, hf4, hO4⟩
  have HB4 : Hid (Below (w.heap.size + 1) (w.alloc (.cells (ucs u) 26)) W4) := HB3.out.trans (hO4.below (Nat.le_refl _))
  have HC4 := hid hc4
  have HF4 := hid hf4
  clear d3b hO4 hc4 hf4
  have hr4 := HR.out _ HB4.out
  have d4a := cellU hr4 9 (.bool u.hasQuery) rfl
  have d4b := cellU hr4 8 (.string (asS u.query)) rfl
  clear hr4
  go_wp2_with fail
  refine (HAD.out u.hasQuery ⟨#[63]⟩ 1 rfl u.query (w.heap.size + 1) _ _ (by have h1 := H1.out; have h2 := H2.out; have h3 := H3.out; have h4 := H4.out; have h5 := H5.out; have := HL.out.scheme; omega) (by omega) HL.out.query HC4.out HF4.out).mono ?_
  rintro e W5 ⟨rfl, hc5, hf5, hO5⟩
  have HB5 : Hid (Below (w.heap.size + 1) (w.alloc (.cells (ucs u) 26)) W5) := HB4.out.trans (hO5.below (Nat.le_refl _))
  have HC5 := hid hc5
  have HF5 := hid hf5
  clear d4a d4b hO5 hc5 hf5
  have hr5 := HR.out _ HB5.out
  have d5a := cellU hr5 11 (.bool u.hasFrag) rfl
  have d5b := cellU hr5 10 (.string (asS u.frag)) rfl
  clear hr5
  go_wp2_with fail
  refine (HAD.out u.hasFrag ⟨#[35]⟩ 1 rfl u.frag (w.heap.size + 1) _ _ (by have h1 := H1.out; have h2 := H2.out; have h3 := H3.out; have h4 := H4.out; have h5 := H5.out; have := HL.out.scheme; omega) (by omega) HL.out.frag HC5.out HF5.out).mono ?_
  rintro e W6 ⟨rfl, hc6, hf6, hO6⟩
  have HB6 : Hid (Below (w.heap.size + 1) (w.alloc (.cells (ucs u) 26)) W6) := HB5.out.trans (hO6.below (Nat.le_refl _))
  have HC6 := hid hc6
  have HF6 := hid hf6
  clear d5a d5b hO6 hc6 hf6
  have hc := HC6.out
  rw [← HSZ.out] at hc
  go_wp2_with fail
  go_ret
  exact ⟨rfl, HB.out _ HB6.out⟩
theorem size_join (u : UrlV) (h : u.scheme ≠ []) : sizeU u ≤ (joinU u).length := by
  unfold sizeU joinU addN
  rw [if_neg h]
  simp only [List.length_append, List.length_singleton]
  cases u.hasAuth <;> cases u.hasUser <;> cases u.hasPort <;> cases u.hasQuery <;> cases u.hasFrag <;> simp <;> omega
/-! merged. -/
def mergedU (b : UrlV) (p : List UInt8) : List UInt8 := if p.getD 0 0 = 47 then p else if b.hasAuth && decide (b.path = []) then 47 :: p else b.path.take ((lastI 47 b.path + 1).toNat) ++ p
theorem merged_len (b : UrlV) (p : List UInt8) : (mergedU b p).length ≤ b.path.length + p.length + 1 := by
  unfold mergedU
  split
  · omega
  · split
    · simp <;> omega
    · rw [List.length_append, List.length_take]; omega
theorem lastI_range (l : List UInt8) : -1 ≤ lastI 47 l ∧ lastI 47 l < l.length := by
  rcases lastI_dec 47 l with ⟨h, _⟩ | ⟨x, y, rfl, _, h⟩
  · rw [h]; omega
  · rw [h, List.length_append, List.length_cons]; omega
end Go.Proofs.YtlblefcmilfjdaaGreatDoor
namespace Go.Proofs.YtlblefcmilfjdaaGreatDoor
set_option linter.unusedVariables false
set_option linter.unusedSimpArgs false
open Go.RowKit Go.BigFrame
attribute [local go_sem ↓] loadU_eq

theorem slice_to8 (S : ByteArray) (b : Nat) (j : Int) (hj : j = (b : Int)) (h2 : b ≤ S.size) (x : ByteArray) (hx : S.extract 0 b = x) (W : World) : (Instr.slice 9 (.string S) none (some (.int .i64 j)) none).run Tryz.prog W = .ok (.string x) W := by
  subst hj
  have h3 : (b : Int) ≤ (S.size : Int) := by omega
  have h4 : (0 : Int) ≤ (b : Int) := by omega
  simp [go_sem, h3, h4, hx, Tryz.underlying9]
set_option maxHeartbeats 8000000 in
set_option maxRecDepth 100000 in
theorem merged_any (b : UrlV) (p : List UInt8) (hp0 : p ≠ []) (hb : LenU 100000 b) (hp : p.length ≤ 100000) (w : World) : Calls Tryz.prog 61 #[.agg (ucs b), .string (asS p)] w fun e w' => e = .returned (.string (asS (mergedU b p))) ∧ Below w.heap.size w w' := by
  obtain ⟨c, r, rfl⟩ := List.exists_cons_of_ne_nil hp0
  have HHP := hid (fun W => hasP_any c r W)
  have HMU : Hid (mergedU b (c :: r) = if c = 47 then c :: r else if b.hasAuth && decide (b.path = []) then 47 :: (c :: r) else b.path.take ((lastI 47 b.path + 1).toNat) ++ (c :: r)) := rfl
  have HB0 := hid (alloc_below (Below.refl _ w) (Nat.le_refl _) (.cells (ucs b) 26))
  have hrow : (w.alloc (.cells (ucs b) 26)).heap[w.heap.size]? = some (.cells (ucs b) 26 (0, 0)) := heap_alloc_new w _
  have hpl := hb.path
  have HLI := hid (fun W => lastIx_any 47 b.path (by omega) W)
  have hsz := asS_size (c :: r)
  have hsp := asS_size b.path
  have ep := emp8 b.path
  generalize mergedU b (c :: r) = R at HMU ⊢
  by_cases hc : c = 47
  · rw [if_pos hc] at HMU
    rw [decide_eq_true hc] at HHP
    rw [HMU.out]
    clear hc hrow hsz hsp ep
    generalize asS (c :: r) = S at HHP ⊢
    go_enter Tryz.func61, Tryz.ntmps61
    go_wp2_with fail
    refine (HHP.out _).mono ?_
    rintro e W ⟨rfl, rfl⟩
    go_wp2_with fail
    go_ret
    exact ⟨rfl, HB0.out⟩
  · rw [if_neg hc] at HMU
    rw [decide_eq_false hc] at HHP
    have c6 := cellU hrow 6 (.bool b.hasAuth) rfl
    have c7 := cellU hrow 7 (.string (asS b.path)) rfl
    cases hA : (b.hasAuth && decide (b.path = [])) with
    | true =>
      rw [hA, if_pos rfl] at HMU
      rw [Bool.and_eq_true, decide_eq_true_iff] at hA
      rw [decide_eq_true hA.2] at ep
      rw [hA.1] at c6
      have HCA : Hid (asS [47] ++ asS (c :: r) = asS R) := by show _ = _; rw [asS_app, HMU.out]; rfl
      have hz : ¬ (9223372036854775807 < (asS [47]).size + (asS (c :: r)).size) := by rw [asS_size, asS_size]; simp at hp ⊢; omega
      clear hA hsp hsz hc hrow
      generalize asS (c :: r) = S at HHP HCA hz ⊢
      generalize asS R = RS at HCA ⊢
      generalize asS b.path = P at c7 ep
      have hz2 : ¬ (9223372036854775807 < (⟨#[47]⟩ : ByteArray).size + S.size) := hz
      go_enter Tryz.func61, Tryz.ntmps61
      go_wp2_with fail
      refine (HHP.out _).mono ?_
      rintro e W ⟨rfl, rfl⟩
      go_wp2_with fail
      go_ret
      exact ⟨by rw [← HCA.out]; rfl, HB0.out⟩
    | false =>
      rw [hA, if_neg (by simp)] at HMU
      have hlr := lastI_range b.path
      obtain ⟨k, hk⟩ : ∃ k : Nat, lastI 47 b.path + 1 = (k : Int) := ⟨(lastI 47 b.path + 1).toNat, by omega⟩
      rw [hk, Int.toNat_natCast] at HMU
      have hkl : (k : Int) ≤ ((asS b.path).size : Int) := by rw [hsp]; omega
      have hx := ext_to b.path k
      have HCA : Hid (asS (b.path.take k) ++ asS (c :: r) = asS R) := by show _ = _; rw [asS_app, HMU.out]
      have hz : ¬ (9223372036854775807 < (asS (b.path.take k)).size + (asS (c :: r)).size) := by rw [asS_size, asS_size, List.length_take]; omega
      clear hsz
      have hsl := fun W => slice_to8 (asS b.path) k (lastI 47 b.path + 1) hk (by omega) _ hx W
      have hwr : wrap64 (lastI 47 b.path + 1) = (k : Int) := by rw [hk]; unfold wrap64; omega
      generalize lastI 47 b.path = L at HLI hk hwr hlr hsl
      clear hsp hc hrow
      generalize asS (c :: r) = S at HHP HCA hz ⊢
      generalize asS R = RS at HCA ⊢
      generalize asS (b.path.take k) = T at hx HCA hz hsl
      have hL0 : -1 ≤ L := hlr.1
      have hL1 : L ≤ 100000 := by omega
      have HK := hid hk
      clear hk hlr
      cases hha : b.hasAuth with
      | false =>
        rw [hha] at c6
        clear hA ep hha
        generalize asS b.path = P at c7 hkl hx HLI hsl
        go_enter Tryz.func61, Tryz.ntmps61
        go_wp2_with fail
        refine (HHP.out _).mono ?_
        rintro e W ⟨rfl, rfl⟩
        go_wp2_with fail
        obtain ⟨V, hV⟩ : ∃ V, V = w.alloc (.cells (ucs b) 26) := ⟨_, rfl⟩
        rw [← hV] at HB0 c7 ⊢
        clear hV
        have k7 := cell_regrown c7
        have c1 : REG7 85 #[.string P, .string ⟨#[47]⟩] V (.int .i64 L) := fun d os => Calls.regrown_of (same_below HLI.out _)
        clear c6 c7
        refine wp_region_quiet_below (by kernel_rfl) (by kernel_rfl) ?_
        repeat (go_big_quiet_step (first | (go_at_call 85; exact c1 _ _)))
        refine wpQuiet_nil ?_
        rintro W9 ⟨⟨dq, osq⟩, hw⟩
        have HB9 : Hid (Below V.heap.size V W9) := by rw [hw]; exact below_regrown V dq osq
        clear hw k7 c1
        go_wp2_with fail
        go_ret
        exact ⟨by rw [← HCA.out]; rfl, HB0.out.trans (HB9.out.mono HB0.out.size)⟩
      | true =>
        rw [hha] at c6 hA
        have hbp : ¬ b.path = [] := by simpa using hA
        rw [decide_eq_false hbp] at ep
        clear hA hha hbp
        generalize asS b.path = P at c7 hkl hx HLI hsl ep
        go_enter Tryz.func61, Tryz.ntmps61
        go_wp2_with fail
        refine (HHP.out _).mono ?_
        rintro e W ⟨rfl, rfl⟩
        go_wp2_with fail
        obtain ⟨V, hV⟩ : ∃ V, V = w.alloc (.cells (ucs b) 26) := ⟨_, rfl⟩
        rw [← hV] at HB0 c7 ⊢
        clear hV
        have k7 := cell_regrown c7
        have c1 : REG7 85 #[.string P, .string ⟨#[47]⟩] V (.int .i64 L) := fun d os => Calls.regrown_of (same_below HLI.out _)
        clear c6 c7
        refine wp_region_quiet_below (by kernel_rfl) (by kernel_rfl) ?_
        repeat (go_big_quiet_step (first | (go_at_call 85; exact c1 _ _)))
        refine wpQuiet_nil ?_
        rintro W9 ⟨⟨dq, osq⟩, hw⟩
        have HB9 : Hid (Below V.heap.size V W9) := by rw [hw]; exact below_regrown V dq osq
        clear hw k7 c1
        go_wp2_with fail
        go_ret
        exact ⟨by rw [← HCA.out]; rfl, HB0.out.trans (HB9.out.mono HB0.out.size)⟩
end Go.Proofs.YtlblefcmilfjdaaGreatDoor
namespace Go.Proofs.YtlblefcmilfjdaaGreatDoor
set_option linter.unusedVariables false
set_option linter.unusedSimpArgs false
open Go.RowKit Go.BigFrame
attribute [local go_sem ↓] loadU_eq

def againstU (b r : UrlV) : UrlV :=
  if r.scheme ≠ [] ∨ r.hasAuth = true then { r with scheme := orU r.scheme b.scheme, path := dotsU r.path }
  else if r.path = [] ∧ r.hasQuery = false then { b with frag := r.frag, hasFrag := r.hasFrag }
  else if r.path = [] then { b with frag := r.frag, hasFrag := r.hasFrag, query := r.query, hasQuery := r.hasQuery }
  else { b with frag := r.frag, hasFrag := r.hasFrag, query := r.query, hasQuery := r.hasQuery, path := dotsU (mergedU b r.path) }
theorem heap_at (w : World) (o : Obj) (n : Nat) (h : n = w.heap.size) : (w.alloc o).heap[n]? = some o := by subst h; exact heap_alloc_new w o
theorem heap_old {w : World} {o o2 : Obj} {n : Nat} (h : w.heap[n]? = some o) : (w.alloc o2).heap[n]? = some o := (Below.heap_alloc w o2 n (row_lt h)).trans h
theorem zero_url : Tryz.prog.built 26 [] = some (ucs zeroU) := built_urlZ
/-- The three rows. -/
structure AgAt (V : World) (n : Nat) (b r : UrlV) : Prop where
  r0 : V.heap[n]? = some (.cells (ucs b) 26 (0, 0))
  r1 : V.heap[n + 1]? = some (.cells (ucs r) 26 (0, 0))
  r2 : V.heap[n + 1 + 1]? = some (.cells (ucs zeroU) 26 (0, 0))
theorem AgAt.below {V W : World} {n : Nat} {b r : UrlV} (h : AgAt V n b r) (hb : Below V.heap.size V W) : AgAt W n b r := ⟨row_keep hb h.r0, row_keep hb h.r1, row_keep hb h.r2⟩
theorem AgAt.only {V W : World} {n g : Nat} {b r : UrlV} (h : AgAt V n b r) (hO : Only g V W) (hg : n + 1 + 1 < g) : AgAt W n b r := ⟨(hO.block _ (by omega)).trans h.r0, (hO.block _ (by omega)).trans h.r1, (hO.block _ (by omega)).trans h.r2⟩
theorem AgAt.under {V W : World} {n g : Nat} {b r : UrlV} (h : AgAt V n b r) (hO : Below g V W) (hg : n + 1 + 1 < g) : AgAt W n b r := ⟨(hO.block _ (by omega)).trans h.r0, (hO.block _ (by omega)).trans h.r1, (hO.block _ (by omega)).trans h.r2⟩
theorem AgAt.lt {V : World} {n : Nat} {b r : UrlV} (h : AgAt V n b r) : n + 1 + 1 < V.heap.size := row_lt h.r2
theorem or_two (a b : List UInt8) (n : Nat) (W : World) (h : n = W.heap.size) : Calls Tryz.prog 26 #[.slice (some ⟨n, 0, none⟩) 2 2] (W.alloc (.cells #[.string (asS a), .string (asS b)] 9)) fun e w' => e = .returned (.string (asS (orU a b))) ∧ Below W.heap.size W w' :=
  (or_any a b n _ (heap_at W _ n h)).mono (by rintro e w' ⟨rfl, rfl⟩; exact ⟨rfl, alloc_below (Below.refl _ W) (Nat.le_refl _) _⟩)
set_option maxHeartbeats 8000000 in
set_option maxRecDepth 100000 in
theorem against_any (b r : UrlV) (hb : LenU 40000 b) (hr : LenU 40000 r) (w : World) (hT : TabS w) : Calls Tryz.prog 36 #[.agg (ucs b), .agg (ucs r)] w fun e w' => e = .returned (.agg (ucs (againstU b r))) ∧ Below w.heap.size w w' := by
  have HT := hid hT
  have HAG : Hid (againstU b r = if r.scheme ≠ [] ∨ r.hasAuth = true then { r with scheme := orU r.scheme b.scheme, path := dotsU r.path }
    else if r.path = [] ∧ r.hasQuery = false then { b with frag := r.frag, hasFrag := r.hasFrag }
    else if r.path = [] then { b with frag := r.frag, hasFrag := r.hasFrag, query := r.query, hasQuery := r.hasQuery }
    else { b with frag := r.frag, hasFrag := r.hasFrag, query := r.query, hasQuery := r.hasQuery, path := dotsU (mergedU b r.path) }) := rfl
  have HA0 : Hid (AgAt (((w.alloc (.cells (ucs b) 26)).alloc (.cells (ucs r) 26)).alloc (.cells (ucs zeroU) 26)) w.heap.size b r) :=
    ⟨heap_old (heap_old (heap_alloc_new w _)), heap_old (heap_at _ _ _ (by simp)), heap_at _ _ _ (by simp)⟩
  have HB0 : Hid (Below w.heap.size w (((w.alloc (.cells (ucs b) 26)).alloc (.cells (ucs r) 26)).alloc (.cells (ucs zeroU) 26))) :=
    alloc_below (alloc_below (alloc_below (Below.refl _ w) (Nat.le_refl _) _) (by simp) _) (by simp; omega) _
  have HWD := hid (fun W h => without_any r.path (by have := hr.path; omega) W h)
  have HWM := hid (fun (h0 : r.path ≠ []) W h => without_any (mergedU b r.path) (by have := merged_len b r.path; have := hr.path; have := hb.path; omega) W h)
  have HMG := hid (fun (h0 : r.path ≠ []) W => merged_any b r.path h0 ⟨Nat.le_trans hb.scheme (by omega), Nat.le_trans hb.user (by omega), Nat.le_trans hb.host (by omega), Nat.le_trans hb.port (by omega), Nat.le_trans hb.path (by omega), Nat.le_trans hb.query (by omega), Nat.le_trans hb.frag (by omega)⟩ (by have := hr.path; omega) W)
  have HOR := hid (fun n W h => or_two r.scheme b.scheme n W h)
  have es := emp8 r.scheme
  have epp := emp8 r.path
  generalize againstU b r = R at HAG ⊢
  clear hT hb hr
  go_enter Tryz.func36, Tryz.ntmps36
  go_upto_region 1 with (fail)
  show Code.wp Tryz.prog _ _ _ (((w.alloc (.cells (ucs b) 26)).alloc (.cells (ucs r) 26)).alloc (.cells (ucs zeroU) 26))
  generalize (((w.alloc (.cells (ucs b) 26)).alloc (.cells (ucs r) 26)).alloc (.cells (ucs zeroU) 26)) = V at HA0 HB0 ⊢
  have c10 := cellU HA0.out.r1 0 (.string (asS r.scheme)) rfl
  have c16 := cellU HA0.out.r1 6 (.bool r.hasAuth) rfl
  have c00 := cellU HA0.out.r0 0 (.string (asS b.scheme)) rfl
  by_cases hown : r.scheme ≠ [] ∨ r.hasAuth = true
  · rw [if_pos hown] at HAG
    by_cases hss : r.scheme = []
    · have hha : r.hasAuth = true := by
        rcases hown with h | h
        · exact absurd hss h
        · exact h
      rw [decide_eq_true hss] at es
      rw [hha] at c16
      clear hss hha hown
      generalize hSR : asS r.scheme = SR at c10 es HOR
      generalize hSB : asS b.scheme = SB at c00 HOR
      clear hSR hSB epp
      have HV1 : Hid (w.heap.size < V.heap.size) := by have := HA0.out.lt; show _ < _; omega
      go_wp2_with fail
      refine (HOR.out _ V rfl).mono ?_
      rintro e W1 ⟨rfl, hb1⟩
      have HA1 := hid (HA0.out.below hb1)
      have HB1 := hid (HB0.out.trans (hb1.mono HB0.out.size))
      clear hb1 c10 c00 c16
      go_wp2_with (first
        | (refine store_fld rfl 9 _ _ rfl (w.heap.size + 1) 0 (.string (asS (orU r.scheme b.scheme))) r { r with scheme := orU r.scheme b.scheme } rfl rfl info9 (by omega) rfl rfl HA1.out.r1 rfl ?_)
        | fail)
      intro W2 hO2 hW2
      have HB2 := hid (HB1.out.trans (hO2.below (B := w.heap.size) (by omega)))
      have HR2 := hid ((hO2.block (w.heap.size + 1 + 1) (by omega)).trans HA1.out.r2)
      have HQ2 := hid hW2
      have d7 := cellU hW2 7 (.string (asS r.path)) rfl
      clear hO2 hW2
      go_wp2_with fail
      refine (HWD.out _ (HT.out.below HB2.out)).mono ?_
      rintro e W3 ⟨rfl, hb3⟩
      have HR3 := hid (row_keep hb3 HR2.out)
      have HQ3 := hid (row_keep hb3 HQ2.out)
      have HB3 := hid (HB2.out.trans (hb3.mono HB2.out.size))
      clear hb3 d7
      go_wp2_with (first
        | (refine store_fld rfl 9 _ _ rfl (w.heap.size + 1) 7 (.string (asS (dotsU r.path))) { r with scheme := orU r.scheme b.scheme } { r with scheme := orU r.scheme b.scheme, path := dotsU r.path } rfl rfl info9 (by omega) rfl rfl HQ3.out rfl ?_)
        | fail)
      intro W4 hO4 hW4
      have HB4 := hid (HB3.out.trans (hO4.below (B := w.heap.size) (by omega)))
      have HR4 := hid ((hO4.block (w.heap.size + 1 + 1) (by omega)).trans HR3.out)
      rw [← HAG.out] at hW4
      have ld := loadU_row hW4
      clear hO4 hW4
      go_wp2_with (first
        | (refine store_url rfl _ _ rfl (w.heap.size + 1 + 1) R rfl rfl _ HR4.out rfl ?_)
        | fail)
      intro W5 hO5 hW5
      have HB5 := hid (HB4.out.trans (hO5.below (B := w.heap.size) (by omega)))
      have HW5 := hid hW5
      clear hO5 hW5 ld
      go_wp2_with fail
      exact bodyPost_ret (results_cell_row Tryz.results36 _ _ (w.heap.size + 1 + 1) 26 (ucs R) (0, 0) _ rfl HW5.out Tryz.underlying26 rfl (ucs_info R)) rfl ⟨rfl, HB5.out⟩
    · rw [decide_eq_false hss] at es
      clear hss hown
      generalize hSR : asS r.scheme = SR at c10 es HOR
      generalize hSB : asS b.scheme = SB at c00 HOR
      clear hSR hSB epp
      have HV1 : Hid (w.heap.size < V.heap.size) := by have := HA0.out.lt; show _ < _; omega
      go_wp2_with fail
      refine (HOR.out _ V rfl).mono ?_
      rintro e W1 ⟨rfl, hb1⟩
      have HA1 := hid (HA0.out.below hb1)
      have HB1 := hid (HB0.out.trans (hb1.mono HB0.out.size))
      clear hb1 c10 c00 c16
      go_wp2_with (first
        | (refine store_fld rfl 9 _ _ rfl (w.heap.size + 1) 0 (.string (asS (orU r.scheme b.scheme))) r { r with scheme := orU r.scheme b.scheme } rfl rfl info9 (by omega) rfl rfl HA1.out.r1 rfl ?_)
        | fail)
      intro W2 hO2 hW2
      have HB2 := hid (HB1.out.trans (hO2.below (B := w.heap.size) (by omega)))
      have HR2 := hid ((hO2.block (w.heap.size + 1 + 1) (by omega)).trans HA1.out.r2)
      have HQ2 := hid hW2
      have d7 := cellU hW2 7 (.string (asS r.path)) rfl
      clear hO2 hW2
      go_wp2_with fail
      refine (HWD.out _ (HT.out.below HB2.out)).mono ?_
      rintro e W3 ⟨rfl, hb3⟩
      have HR3 := hid (row_keep hb3 HR2.out)
      have HQ3 := hid (row_keep hb3 HQ2.out)
      have HB3 := hid (HB2.out.trans (hb3.mono HB2.out.size))
      clear hb3 d7
      go_wp2_with (first
        | (refine store_fld rfl 9 _ _ rfl (w.heap.size + 1) 7 (.string (asS (dotsU r.path))) { r with scheme := orU r.scheme b.scheme } { r with scheme := orU r.scheme b.scheme, path := dotsU r.path } rfl rfl info9 (by omega) rfl rfl HQ3.out rfl ?_)
        | fail)
      intro W4 hO4 hW4
      have HB4 := hid (HB3.out.trans (hO4.below (B := w.heap.size) (by omega)))
      have HR4 := hid ((hO4.block (w.heap.size + 1 + 1) (by omega)).trans HR3.out)
      rw [← HAG.out] at hW4
      have ld := loadU_row hW4
      clear hO4 hW4
      go_wp2_with (first
        | (refine store_url rfl _ _ rfl (w.heap.size + 1 + 1) R rfl rfl _ HR4.out rfl ?_)
        | fail)
      intro W5 hO5 hW5
      have HB5 := hid (HB4.out.trans (hO5.below (B := w.heap.size) (by omega)))
      have HW5 := hid hW5
      clear hO5 hW5 ld
      go_wp2_with fail
      exact bodyPost_ret (results_cell_row Tryz.results36 _ _ (w.heap.size + 1 + 1) 26 (ucs R) (0, 0) _ rfl HW5.out Tryz.underlying26 rfl (ucs_info R)) rfl ⟨rfl, HB5.out⟩
  · rw [if_neg hown] at HAG
    have hss : r.scheme = [] := Classical.byContradiction fun h => hown (.inl h)
    have hha : r.hasAuth = false := by cases h : r.hasAuth with
      | false => rfl
      | true => exact absurd (.inr h) hown
    rw [decide_eq_true hss] at es
    rw [hha] at c16
    generalize hSR : asS r.scheme = SR at c10 es
    clear hSR hss hha hown c00 HOR HWD
    have l0 := loadU_row HA0.out.r0
    go_wp2_with (first
      | (refine store_url rfl _ _ rfl V.heap.size b rfl rfl _ (heap_alloc_new V _) rfl ?_)
      | fail)
    intro W1 hO1 hW1
    obtain ⟨g3, hg3⟩ : ∃ g, g = V.heap.size := ⟨_, rfl⟩
    have hgn : w.heap.size + 1 + 1 < g3 := by have := HA0.out.lt; omega
    rw [← hg3] at hO1 hW1 ⊢
    have HA1 : Hid (AgAt W1 w.heap.size b r) := AgAt.only ⟨heap_old HA0.out.r0, heap_old HA0.out.r1, heap_old HA0.out.r2⟩ hO1 hgn
    have HB1 : Hid (Below w.heap.size w W1) := (alloc_below HB0.out HB0.out.size _).trans (hO1.below (by omega))
    have HU1 := hid hW1
    clear hO1 l0 c10 c16 hg3 hW1
    have d10 := cellU HA1.out.r1 10 (.string (asS r.frag)) rfl
    have d11 := cellU HA1.out.r1 11 (.bool r.hasFrag) rfl
    have e10 := cellU HU1.out 10 (.string (asS b.frag)) rfl
    have e11 := cellU HU1.out 11 (.bool b.hasFrag) rfl
    have f10 := Joins.unfrozen_of_block HU1.out 10
    have f11 := Joins.unfrozen_of_block HU1.out 11
    have hne : ¬ w.heap.size + 1 = g3 := by omega
    have hne2 : ¬ g3 = w.heap.size + 1 := by omega
    go_upto_region 6 with (fail)
    go_cut [] (fun wx => Hid (Below g3 W1 wx) ∧ Hid (wx.heap[g3]? = some (.cells (ucs { b with frag := r.frag, hasFrag := r.hasFrag }) 26 (0, 0))))
    case first =>
      go_region
      all_goals go_wp2_with fail
      all_goals go_meet
      all_goals (case rel => exact ⟨(((Below.refl g3 W1).setCell (Nat.le_refl _) _).setCell (Nat.le_refl _) _).drew, Joins.block_setCell (Joins.block_setCell HU1.out _) _⟩)
    case rest =>
      obtain ⟨HO2, HU2⟩ := hcut
      have HA2 : Hid (AgAt wc w.heap.size b r) := AgAt.under HA1.out HO2.out hgn
      have HB2 : Hid (Below w.heap.size w wc) := HB1.out.trans (HO2.out.mono (by omega))
      clear d10 d11 e10 e11 f10 f11 HO2 HA1 HB1 HU1
      have c7 := cellU HA2.out.r1 7 (.string (asS r.path)) rfl
      have cq := cellU HA2.out.r1 9 (.bool r.hasQuery) rfl
      by_cases hp : r.path = []
      · rw [decide_eq_true hp] at epp
        cases hq : r.hasQuery with
        | false =>
          rw [if_pos ⟨hp, hq⟩] at HAG
          rw [hq] at cq
          generalize hSP : asS r.path = SP at c7 epp
          clear hSP hp HWM HMG
          have ld := loadU_row HU2.out
          go_wp2_with (first
            | (refine store_url rfl _ _ rfl (w.heap.size + 1 + 1) { b with frag := r.frag, hasFrag := r.hasFrag } rfl rfl _ HA2.out.r2 rfl ?_)
            | fail)
          intro W5 hO5 hW5
          have HB5 := hid (HB2.out.trans (hO5.below (B := w.heap.size) (by omega)))
          have HW5 := hid hW5
          clear hO5 hW5 ld
          go_wp2_with fail
          exact bodyPost_ret (results_cell_row Tryz.results36 _ _ (w.heap.size + 1 + 1) 26 (ucs { b with frag := r.frag, hasFrag := r.hasFrag }) (0, 0) _ rfl HW5.out Tryz.underlying26 rfl (ucs_info _)) rfl ⟨by rw [HAG.out], HB5.out⟩
        | true =>
          rw [if_neg (fun h => by rw [hq] at h; cases h.2), if_pos hp, hq] at HAG
          have d10 := cellU HA2.out.r1 8 (.string (asS r.query)) rfl
          have d11 := cellU HA2.out.r1 9 (.bool r.hasQuery) rfl
          have e10 := cellU HU2.out 8 (.string (asS b.query)) rfl
          have e11 := cellU HU2.out 9 (.bool b.hasQuery) rfl
          have f10 := Joins.unfrozen_of_block HU2.out 8
          have f11 := Joins.unfrozen_of_block HU2.out 9
          obtain ⟨W2, hW2⟩ : ∃ W2, W2 = wc := ⟨_, rfl⟩
          rw [← hW2] at HA2 HB2 HU2 c7 d10 d11 e10 e11 f10 f11 cq ⊢
          clear hW2

          rw [hq] at cq d11
          generalize hSP : asS r.path = SP at c7 epp
          clear hSP HWM HMG hq
          go_upto_region 9 with (fail)
          go_cut [] (fun wx => Hid (Below g3 W2 wx) ∧ Hid (wx.heap[g3]? = some (.cells (ucs { b with frag := r.frag, hasFrag := r.hasFrag, query := r.query, hasQuery := true }) 26 (0, 0))))
          case first =>
            go_region
            all_goals go_wp2_with fail
            all_goals go_meet
            all_goals (case rel => exact ⟨(((Below.refl g3 W2).setCell (Nat.le_refl _) _).setCell (Nat.le_refl _) _).drew, Joins.block_setCell (Joins.block_setCell HU2.out _) _⟩)
          case rest =>
            obtain ⟨HO3, HU3⟩ := hcut
            have HA3 : Hid (AgAt wc w.heap.size b r) := AgAt.under HA2.out HO3.out hgn
            have HB3 : Hid (Below w.heap.size w wc) := HB2.out.trans (HO3.out.mono (by omega))
            clear c7 cq d10 d11 e10 e11 f10 f11 HO3 HA2 HB2 HU2
            have c7 := cellU HA3.out.r1 7 (.string (asS r.path)) rfl
            have epp2 := emp8 r.path
            rw [decide_eq_true hp] at epp2
            generalize hSP : asS r.path = SP2 at c7 epp2
            clear hSP hp
            have ld := loadU_row HU3.out
            go_wp2_with (first
              | (refine store_url rfl _ _ rfl (w.heap.size + 1 + 1) { b with frag := r.frag, hasFrag := r.hasFrag, query := r.query, hasQuery := true } rfl rfl _ HA3.out.r2 rfl ?_)
              | fail)
            intro W5 hO5 hW5
            have HB5 := hid (HB3.out.trans (hO5.below (B := w.heap.size) (by omega)))
            have HW5 := hid hW5
            clear hO5 hW5 ld
            go_wp2_with fail
            exact bodyPost_ret (results_cell_row Tryz.results36 _ _ (w.heap.size + 1 + 1) 26 (ucs { b with frag := r.frag, hasFrag := r.hasFrag, query := r.query, hasQuery := true }) (0, 0) _ rfl HW5.out Tryz.underlying26 rfl (ucs_info _)) rfl ⟨by rw [HAG.out], HB5.out⟩
      · rw [decide_eq_false hp] at epp
        rw [if_neg (fun h => hp h.1), if_neg hp] at HAG
        have HMG2 := hid (HMG.out hp)
        have HWM2 := hid (HWM.out hp)
        have d10 := cellU HA2.out.r1 8 (.string (asS r.query)) rfl
        have d11 := cellU HA2.out.r1 9 (.bool r.hasQuery) rfl
        have e10 := cellU HU2.out 8 (.string (asS b.query)) rfl
        have e11 := cellU HU2.out 9 (.bool b.hasQuery) rfl
        have f10 := Joins.unfrozen_of_block HU2.out 8
        have f11 := Joins.unfrozen_of_block HU2.out 9
        obtain ⟨W2, hW2⟩ : ∃ W2, W2 = wc := ⟨_, rfl⟩
        rw [← hW2] at HA2 HB2 HU2 c7 d10 d11 e10 e11 f10 f11 cq ⊢
        clear hW2

        generalize hSP : asS r.path = SP at c7 epp HMG2
        have HSP := hid hSP
        clear hSP hp HWM HMG
        go_upto_region 9 with (fail)
        go_cut [] (fun wx => Hid (Below g3 W2 wx) ∧ Hid (wx.heap[g3]? = some (.cells (ucs { b with frag := r.frag, hasFrag := r.hasFrag, query := r.query, hasQuery := r.hasQuery }) 26 (0, 0))))
        case first =>
          go_region
          all_goals go_wp2_with fail
          all_goals go_meet
          all_goals (case rel => exact ⟨(((Below.refl g3 W2).setCell (Nat.le_refl _) _).setCell (Nat.le_refl _) _).drew, Joins.block_setCell (Joins.block_setCell HU2.out _) _⟩)
        case rest =>
          obtain ⟨HO3, HU3⟩ := hcut
          have HA3 : Hid (AgAt wc w.heap.size b r) := AgAt.under HA2.out HO3.out hgn
          have HB3 : Hid (Below w.heap.size w wc) := HB2.out.trans (HO3.out.mono (by omega))
          clear c7 cq d10 d11 e10 e11 f10 f11 HO3 HA2 HB2 HU2
          have c7 := cellU HA3.out.r1 7 (.string (asS r.path)) rfl
          rw [HSP.out] at c7
          have ld := loadU_row HA3.out.r0
          go_wp2_with fail
          refine (HMG2.out _).mono ?_
          rintro e W4 ⟨rfl, hb4⟩
          have HA4 := hid (HA3.out.below hb4)
          have HU4 := hid (row_keep hb4 HU3.out)
          have HB4 := hid (HB3.out.trans (hb4.mono HB3.out.size))
          clear hb4 c7 ld
          go_wp2_with fail
          refine (HWM2.out _ (HT.out.below HB4.out)).mono ?_
          rintro e W5 ⟨rfl, hb5⟩
          have HA5 := hid (HA4.out.below hb5)
          have HU5 := hid (row_keep hb5 HU4.out)
          have HB5 := hid (HB4.out.trans (hb5.mono HB4.out.size))
          clear hb5
          go_wp2_with (first
            | (refine store_fld rfl 9 _ _ rfl g3 7 (.string (asS (dotsU (mergedU b r.path)))) { b with frag := r.frag, hasFrag := r.hasFrag, query := r.query, hasQuery := r.hasQuery } { b with frag := r.frag, hasFrag := r.hasFrag, query := r.query, hasQuery := r.hasQuery, path := dotsU (mergedU b r.path) } rfl rfl info9 (by omega) rfl rfl HU5.out rfl ?_)
            | fail)
          intro W6 hO6 hW6
          have HA6 := hid (HA5.out.only hO6 hgn)
          have HB6 := hid (HB5.out.trans (hO6.below (B := w.heap.size) (by omega)))
          have HU6 := hid hW6
          clear hO6 hW6
          have ld := loadU_row HU6.out
          go_wp2_with (first
            | (refine store_url rfl _ _ rfl (w.heap.size + 1 + 1) { b with frag := r.frag, hasFrag := r.hasFrag, query := r.query, hasQuery := r.hasQuery, path := dotsU (mergedU b r.path) } rfl rfl _ HA6.out.r2 rfl ?_)
            | fail)
          intro W7 hO7 hW7
          have HB7 := hid (HB6.out.trans (hO7.below (B := w.heap.size) (by omega)))
          have HW7 := hid hW7
          clear hO7 hW7 ld
          go_wp2_with fail
          exact bodyPost_ret (results_cell_row Tryz.results36 _ _ (w.heap.size + 1 + 1) 26 (ucs { b with frag := r.frag, hasFrag := r.hasFrag, query := r.query, hasQuery := r.hasQuery, path := dotsU (mergedU b r.path) }) (0, 0) _ rfl HW7.out Tryz.underlying26 rfl (ucs_info _)) rfl ⟨by rw [HAG.out], HB7.out⟩
end Go.Proofs.YtlblefcmilfjdaaGreatDoor
namespace Go.Proofs.YtlblefcmilfjdaaGreatDoor
set_option linter.unusedVariables false
set_option linter.unusedSimpArgs false
open Go.RowKit Go.BigFrame
attribute [local go_sem ↓] loadU_eq

theorem or_len (a b : List UInt8) (n : Nat) (ha : a.length ≤ n) (hb : b.length ≤ n) : (orU a b).length ≤ n := by unfold orU; split <;> assumption
theorem against_len (b r : UrlV) (hb : LenU 40000 b) (hr : LenU 40000 r) : LenU 100000 (againstU b r) := by
  have h1 := dots_len r.path
  have h2 := dots_len (mergedU b r.path)
  have h3 := merged_len b r.path
  have h4 := or_len r.scheme b.scheme 40000 hr.scheme hb.scheme
  obtain ⟨b1, b2, b3, b4, b5, b6, b7⟩ := hb
  obtain ⟨r1, r2, r3, r4, r5, r6, r7⟩ := hr
  unfold againstU
  split
  · exact ⟨by simp only; omega, by simp only; omega, by simp only; omega, by simp only; omega, by simp only; omega, by simp only; omega, by simp only; omega⟩
  · split
    · exact ⟨by simp only; omega, by simp only; omega, by simp only; omega, by simp only; omega, by simp only; omega, by simp only; omega, by simp only; omega⟩
    · split
      · exact ⟨by simp only; omega, by simp only; omega, by simp only; omega, by simp only; omega, by simp only; omega, by simp only; omega, by simp only; omega⟩
      · exact ⟨by simp only; omega, by simp only; omega, by simp only; omega, by simp only; omega, by simp only; omega, by simp only; omega, by simp only; omega⟩
def resU (b r : UrlV) : UrlV × Int :=
  if (prOk b && (prOk r && !decide (b.scheme = []))) = true then
    (if 2048 < sizeU (againstU b r) then (zeroU, 3) else if prOk (againstU b r) then (againstU b r, 0) else (zeroU, 1))
  else (zeroU, 1)
theorem LenU.more {n m : Nat} {u : UrlV} (h : LenU n u) (hm : n ≤ m) : LenU m u := ⟨Nat.le_trans h.scheme hm, Nat.le_trans h.user hm, Nat.le_trans h.host hm, Nat.le_trans h.port hm, Nat.le_trans h.path hm, Nat.le_trans h.query hm, Nat.le_trans h.frag hm⟩
set_option maxHeartbeats 8000000 in
set_option maxRecDepth 100000 in
theorem resolve_any (b r : UrlV) (hb : LenU 40000 b) (hr : LenU 40000 r) (w : World) (hT : TabS w) : Calls Tryz.prog 18 #[.agg (ucs b), .agg (ucs r)] w fun e w' => e = .returned (.tuple #[.agg (ucs (resU b r).1), .int .i64 (resU b r).2]) ∧ Below w.heap.size w w' := by
  have HT := hid hT
  have hua := against_len b r hb hr
  have HAG := hid (fun W h => against_any b r hb hr W h)
  have HSI := hid (fun W => size_any (againstU b r) hua W)
  have HPR := hid (fun W h => print_any (againstU b r) hua W h)
  have HPA := hid (fun W h => parseUrl_all (joinU (againstU b r)) W h)
  have HC1 := hid (fun W h => check_any7 b (hb.more (by omega)) W h)
  have HC2 := hid (fun W h => check_any7 r (hr.more (by omega)) W h)
  have HRE : Hid (resU b r = if (prOk b && (prOk r && !decide (b.scheme = []))) = true then
    (if 2048 < sizeU (againstU b r) then (zeroU, 3) else if prOk (againstU b r) then (againstU b r, 0) else (zeroU, 1))
  else (zeroU, 1)) := rfl
  have HE1 : Hid (prE b = if prOk b then 0 else 1) := rfl
  have HE2 : Hid (prE r = if prOk r then 0 else 1) := rfl
  have HE3 : Hid (prE (againstU b r) = if prOk (againstU b r) then 0 else 1) := rfl
  have HS3 : Hid (prS (againstU b r) = if prOk (againstU b r) then asS (joinU (againstU b r)) else ⟨#[]⟩) := rfl
  have HPT := hid (pr_true (againstU b r))
  have HA0 : Hid (AgAt (((w.alloc (.cells (ucs b) 26)).alloc (.cells (ucs r) 26)).alloc (.cells (ucs zeroU) 26)) w.heap.size b r) :=
    ⟨heap_old (heap_old (heap_alloc_new w _)), heap_old (heap_at _ _ _ (by simp)), heap_at _ _ _ (by simp)⟩
  have HB0 : Hid (Below w.heap.size w (((w.alloc (.cells (ucs b) 26)).alloc (.cells (ucs r) 26)).alloc (.cells (ucs zeroU) 26))) :=
    alloc_below (alloc_below (alloc_below (Below.refl _ w) (Nat.le_refl _) _) (by simp) _) (by simp; omega) _
  have es := emp8 b.scheme
  generalize againstU b r = U at HAG HSI HPR HPA HRE HE3 HS3 HPT
  generalize resU b r = RR at HRE ⊢
  obtain ⟨RV, RE⟩ := RR
  have HFIN : Hid (∀ v e, (RV, RE) = (v, e) → RV = v ∧ RE = e) := fun v e h => by injection h with h1 h2; exact ⟨h1, h2⟩
  clear hT hb hr hua
  generalize prOk b = k1 at HRE HE1
  generalize prOk r = k2 at HRE HE2
  generalize hk3 : prOk U = k3 at HRE HE3 HS3 HPT
  clear hk3
  generalize sizeU U = SZ at HSI HRE
  go_enter Tryz.func18, Tryz.ntmps18
  go_upto_region 1 with (fail)
  show Code.wp Tryz.prog _ _ _ (((w.alloc (.cells (ucs b) 26)).alloc (.cells (ucs r) 26)).alloc (.cells (ucs zeroU) 26))
  generalize (((w.alloc (.cells (ucs b) 26)).alloc (.cells (ucs r) 26)).alloc (.cells (ucs zeroU) 26)) = V at HA0 HB0 ⊢
  have l0 := loadU_row HA0.out.r0
  go_wp2_with fail
  refine (HC1.out _ (HT.out.below HB0.out)).mono ?_
  rintro e W1 ⟨rfl, hb1⟩
  have HA1 := hid (HA0.out.below hb1)
  have HB1 := hid (HB0.out.trans (hb1.mono HB0.out.size))
  clear hb1 l0
  generalize prE b = E1 at HE1 ⊢
  cases k1 with
  | false =>
    obtain rfl : E1 = 1 := HE1.out
    obtain ⟨rfl, rfl⟩ := HFIN.out _ _ HRE.out
    go_wp2_with (first
      | (refine wpList_built rfl 26 _ rfl (ucs zeroU) built_urlZ ?_)
      | (refine store_url rfl _ _ rfl (w.heap.size + 1 + 1) zeroU rfl rfl _ HA1.out.r2 rfl ?_)
      | fail)
    intro W2 hO2 hW2
    have HB2 := hid (HB1.out.trans (hO2.below (B := w.heap.size) (by omega)))
    have HW2 := hid hW2
    clear hO2 hW2
    go_wp2_with fail
    exact bodyPost_ret (ret_url2 (p := 4) (q := 5) Tryz.results18 _ _ (w.heap.size + 1 + 1) zeroU (0, 0) _ rfl rfl HW2.out) rfl ⟨rfl, HB2.out⟩
  | true =>
    obtain rfl : E1 = 0 := HE1.out
    have l1 := loadU_row HA1.out.r1
    go_wp2_with fail
    refine (HC2.out _ (HT.out.below HB1.out)).mono ?_
    rintro e W2 ⟨rfl, hb2⟩
    have HA2 := hid (HA1.out.below hb2)
    have HB2 := hid (HB1.out.trans (hb2.mono HB1.out.size))
    clear hb2 l1
    generalize prE r = E2 at HE2 ⊢
    cases k2 with
    | false =>
      obtain rfl : E2 = 1 := HE2.out
      obtain ⟨rfl, rfl⟩ := HFIN.out _ _ HRE.out
      go_wp2_with (first
        | (refine wpList_built rfl 26 _ rfl (ucs zeroU) built_urlZ ?_)
        | (refine store_url rfl _ _ rfl (w.heap.size + 1 + 1) zeroU rfl rfl _ HA2.out.r2 rfl ?_)
        | fail)
      intro W3 hO3 hW3
      have HB3 := hid (HB2.out.trans (hO3.below (B := w.heap.size) (by omega)))
      have HW3 := hid hW3
      clear hO3 hW3
      go_wp2_with fail
      exact bodyPost_ret (ret_url2 (p := 4) (q := 5) Tryz.results18 _ _ (w.heap.size + 1 + 1) zeroU (0, 0) _ rfl rfl HW3.out) rfl ⟨rfl, HB3.out⟩
    | true =>
      obtain rfl : E2 = 0 := HE2.out
      have c0 := cellU HA2.out.r0 0 (.string (asS b.scheme)) rfl
      by_cases hs : b.scheme = []
      · rw [decide_eq_true hs] at es HRE
        obtain ⟨rfl, rfl⟩ := HFIN.out _ _ HRE.out
        generalize asS b.scheme = SB at es c0
        clear hs
        go_wp2_with (first
          | (refine wpList_built rfl 26 _ rfl (ucs zeroU) built_urlZ ?_)
          | (refine store_url rfl _ _ rfl (w.heap.size + 1 + 1) zeroU rfl rfl _ HA2.out.r2 rfl ?_)
          | fail)
        intro W3 hO3 hW3
        have HB3 := hid (HB2.out.trans (hO3.below (B := w.heap.size) (by omega)))
        have HW3 := hid hW3
        clear hO3 hW3
        go_wp2_with fail
        exact bodyPost_ret (ret_url2 (p := 4) (q := 5) Tryz.results18 _ _ (w.heap.size + 1 + 1) zeroU (0, 0) _ rfl rfl HW3.out) rfl ⟨rfl, HB3.out⟩
      · rw [decide_eq_false hs] at es HRE
        have HR2 : Hid ((RV, RE) = (if 2048 < SZ then (zeroU, 3) else if k3 then (U, 0) else (zeroU, 1))) := HRE.out
        generalize asS b.scheme = SB at es c0
        clear hs HRE
        have l2 := loadU_row HA2.out.r0
        have l3 := loadU_row HA2.out.r1
        go_wp2_with fail
        refine (HAG.out _ (HT.out.below HB2.out)).mono ?_
        rintro e W3 ⟨rfl, hb3⟩
        have HA3 := hid (HA2.out.below hb3)
        have HB3 := hid (HB2.out.trans (hb3.mono HB2.out.size))
        clear hb3 l2 l3 c0 es
        go_wp2_with (first
          | (refine store_url rfl _ _ rfl W3.heap.size U rfl rfl _ (heap_alloc_new W3 _) rfl ?_)
          | fail)
        intro W4 hO4 hW4
        obtain ⟨g3, hg3⟩ : ∃ g, g = W3.heap.size := ⟨_, rfl⟩
        have hgn : w.heap.size + 1 + 1 < g3 := by have := HA3.out.lt; omega
        rw [← hg3] at hO4 hW4 ⊢
        have HZ4 : Hid (W4.heap[w.heap.size + 1 + 1]? = some (.cells (ucs zeroU) 26 (0, 0))) := (hO4.block _ (by omega)).trans (heap_old HA3.out.r2)
        have HB4 : Hid (Below w.heap.size w W4) := (alloc_below HB3.out HB3.out.size _).trans (hO4.below (by omega))
        have HU4 := hid hW4
        have l4 := loadU_row hW4
        clear hO4 hW4 hg3
        go_wp2_with fail
        refine (HSI.out _).mono ?_
        rintro e W5 ⟨rfl, hb5⟩
        have HZ5 := hid (row_keep hb5 HZ4.out)
        have HU5 := hid (row_keep hb5 HU4.out)
        have HB5 := hid (HB4.out.trans (hb5.mono HB4.out.size))
        clear hb5 l4
        by_cases hbig : 2048 < SZ
        · rw [if_pos hbig] at HR2
          obtain ⟨rfl, rfl⟩ := HFIN.out _ _ HR2.out
          have hi : (2048 : Int) < (SZ : Int) := by omega
          go_wp2_with (first
            | (refine wpList_built rfl 26 _ rfl (ucs zeroU) built_urlZ ?_)
            | (refine store_url rfl _ _ rfl (w.heap.size + 1 + 1) zeroU rfl rfl _ HZ5.out rfl ?_)
            | fail)
          intro W6 hO6 hW6
          have HB6 := hid (HB5.out.trans (hO6.below (B := w.heap.size) (by omega)))
          have HW6 := hid hW6
          clear hO6 hW6
          go_wp2_with fail
          exact bodyPost_ret (ret_url2 (p := 4) (q := 5) Tryz.results18 _ _ (w.heap.size + 1 + 1) zeroU (0, 0) _ rfl rfl HW6.out) rfl ⟨rfl, HB6.out⟩
        · rw [if_neg hbig] at HR2
          have hi : ¬ (2048 : Int) < (SZ : Int) := by omega
          have l5 := loadU_row HU5.out
          go_wp2_with fail
          refine (HPR.out _ (HT.out.below HB5.out)).mono ?_
          rintro e W6 ⟨rfl, hb6⟩
          have HZ6 := hid (row_keep hb6 HZ5.out)
          have HB6 := hid (HB5.out.trans (hb6.mono HB5.out.size))
          clear hb6 l5
          generalize prE U = E3 at HE3 ⊢
          generalize prS U = S3 at HS3 ⊢
          cases k3 with
          | false =>
            obtain rfl : E3 = 1 := HE3.out
            obtain ⟨rfl, rfl⟩ := HFIN.out _ _ HR2.out
            go_wp2_with (first
              | (refine wpList_built rfl 26 _ rfl (ucs zeroU) built_urlZ ?_)
              | (refine store_url rfl _ _ rfl (w.heap.size + 1 + 1) zeroU rfl rfl _ HZ6.out rfl ?_)
              | fail)
            intro W7 hO7 hW7
            have HB7 := hid (HB6.out.trans (hO7.below (B := w.heap.size) (by omega)))
            have HW7 := hid hW7
            clear hO7 hW7
            go_wp2_with fail
            exact bodyPost_ret (ret_url2 (p := 4) (q := 5) Tryz.results18 _ _ (w.heap.size + 1 + 1) zeroU (0, 0) _ rfl rfl HW7.out) rfl ⟨rfl, HB7.out⟩
          | true =>
            obtain rfl : E3 = 0 := HE3.out
            obtain ⟨rfl, rfl⟩ := HFIN.out _ _ HR2.out
            obtain ⟨hp1, hp2⟩ := HPT.out rfl
            rw [hp1, hp2] at HPA
            have HS4 : Hid (S3 = asS (joinU RV)) := HS3.out
            rw [← HS4.out] at HPA
            clear hp1 hp2 HPT HS3 HS4
            go_wp2_with fail
            refine (HPA.out _ (HT.out.below HB6.out)).mono ?_
            rintro e W7 ⟨rfl, hb7⟩
            have HZ7 := hid (row_keep hb7 HZ6.out)
            have HB7 := hid (HB6.out.trans (hb7.mono HB6.out.size))
            clear hb7
            go_wp2_with (first
              | (refine store_url rfl _ _ rfl (w.heap.size + 1 + 1) RV rfl rfl _ HZ7.out rfl ?_)
              | fail)
            intro W8 hO8 hW8
            have HB8 := hid (HB7.out.trans (hO8.below (B := w.heap.size) (by omega)))
            have HW8 := hid hW8
            clear hO8 hW8
            go_wp2_with fail
            exact bodyPost_ret (ret_url2 (p := 4) (q := 5) Tryz.results18 _ _ (w.heap.size + 1 + 1) RV (0, 0) _ rfl rfl HW8.out) rfl ⟨rfl, HB8.out⟩
end Go.Proofs.YtlblefcmilfjdaaGreatDoor
