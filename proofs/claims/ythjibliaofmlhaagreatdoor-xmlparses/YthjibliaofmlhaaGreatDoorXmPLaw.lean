
/- The law XmlParses: the program's Parse and the reference's answer alike. -/
import Derived.Test.YthjibliaofmlhaaGreatDoorXmRPar
import Derived.Test.YthjibliaofmlhaaGreatDoorXmSame
import Derived.Test.YthjibliaofmlhaaGreatDoorXmAw
import Derived.Test.YthjibliaofmlhaaGreatDoorXmAtt
import Derived.Test.YthjibliaofmlhaaGreatDoorXmOpen
namespace Go.Proofs.YthjibliaofmlhaaGreatDoor
set_option linter.unusedVariables false
set_option linter.unusedSimpArgs false
open Go.RowKit Go.BigFrame
attribute [local go_sem ↓] loadN_eq

/-- The error, and the tree, that a reading comes to. -/
def eOf : Except Nat (Tr 40) → Nat
  | .ok _ => 0
  | .error e => e
def tOf : Except Nat (Tr 40) → Tr 40
  | .ok t => t
  | .error _ => leaf 40 ([], [], [])
theorem ParPost.node {V : Except Nat (Tr 40)} {w w' : World} {e : Ending} (h : ParPost V w e w') : Below w.heap.size w w' ∧ ∃ A B C D : Value, e = .returned (.tuple #[.agg #[A, B, C, D], .int .i64 (eOf V : Nat)]) ∧ NdAt (fun q => w.heap.size ≤ q) 40 w' #[A, B, C, D] (tOf V) ∧ A.oneCell' = true ∧ B.oneCell' = true ∧ C.oneCell' = true ∧ D.oneCell' = true := by
  obtain ⟨hb, ⟨t, cs, rfl, rfl, hn⟩ | ⟨er, rfl, her, rfl⟩⟩ := h
  · obtain ⟨aA, ac, kA, kc, hcs, _, _⟩ := hn.parts
    subst hcs
    exact ⟨hb, _, _, _, _, rfl, hn, rfl, rfl, rfl, rfl⟩
  · exact ⟨hb, _, _, _, _, rfl, NdAt.mk0 (l := ([], [], [])) ⟨fun h => absurd h (by simp), fun h => absurd h (by simp)⟩, rfl, rfl, rfl, rfl⟩
theorem fit_leaf (N : Nat) : FitN N 40 (leaf 40 ([], [], [])) := ⟨Nat.zero_le _, Nat.zero_le _, fun k hk => by cases hk⟩
theorem check_parts {d : Nat} {t : Tr d} (h : checkT d t = 0) : (nmT d t).isEmpty = false ∧ mayT d t = true ∧ deepT d t ≤ 16 ∧ manyT d t ≤ 4096 := by
  unfold checkT at h
  split at h
  · cases h
  · rename_i h1
    split at h
    · cases h
    · rename_i h2
      split at h
      · cases h
      · rename_i h3
        simp at h1
        exact ⟨by simpa using h1.1, h1.2, by omega, by omega⟩
theorem fit_par (s : List UInt8) : FitN 1000000 40 (tOf (parX s)) := by
  cases h : parX s with
  | error e => exact fit_leaf _
  | ok t =>
    obtain ⟨_, h1, _, h2⟩ := check_parts (par_may h)
    exact fit_may 1000000 40 t h1 (by omega)
set_option maxHeartbeats 1000000 in
set_option maxRecDepth 100000 in
theorem parses13_law (s : List UInt8) (w : World) (hT : TabX w) : Calls Tryz.prog 4 #[.string (asS s)] w fun e w' => e = .returned (.bool true) ∧ Below w.heap.size w w' := by
  have HPA := hid (fun W h1 h2 => parse13_any attributes_ok s W h1 h2)
  have HPB := hid (fun W => refParse13_any s W)
  have HAW := hid (fun W h1 h2 => awake13_any attributes_ok W h1 h2)
  have HSM := hid (same_all 40 (tOf (parX s)) (fit_par s))
  have HT := hid hT.1
  have H8 := hid hT.2
  clear hT
  generalize parX s = V at HPA HPB HSM
  generalize asS s = S at HPA HPB ⊢
  generalize hn : S.size = n
  by_cases h1 : 12000 < n ∧ n ≤ 65536
  · have h2 : (12000 : Int) < (n : Int) := by omega
    have h3 : (n : Int) ≤ 65536 := by omega
    rw [← hn] at h2 h3
    go_enter Tryz.func4, Tryz.ntmps4
    go_wp2_with fail
    refine Calls.mono (HAW.out w H8.out HT.out) ?_
    rintro e W1 ⟨rfl, hb⟩
    have HB := hid hb
    clear hb
    go_wp2_with fail
    go_ret
    exact ⟨rfl, HB.out⟩
  · have walk : ∀ b : Bool, decide ((12000 : Int) < (S.size : Int)) = b → (b = true → decide ((S.size : Int) ≤ 65536) = false) → Calls Tryz.prog 4 #[.string S] w fun e w' => e = .returned (.bool true) ∧ Below w.heap.size w w' := by
      intro b hb hb2
      cases b
      all_goals
        first
          | (have hb3 := hb2 rfl)
          | skip
        clear hb2 h1 hn
        go_enter Tryz.func4, Tryz.ntmps4
        go_wp2_with fail
        refine Calls.mono (HPA.out w H8.out HT.out) ?_
        intro e W1 hp
        obtain ⟨hb1, A, B, C, D, rfl, hnd, o1, o2, o3, o4⟩ := hp.node
        have HB1 := hid hb1
        have HN1 := hid hnd
        clear hb1 hnd hp
        go_wp2_with (first
          | (refine store_msg infoN rfl _ _ rfl W1.heap.size A B C D o1 o2 o3 o4 rfl rfl _ (heap_alloc_new W1 _) rfl ?_)
          | fail)
        intro W2 ho hr
        have hb2 : Below W1.heap.size W1 W2 := ((Below.refl _ _).alloc (Nat.le_refl _) _).trans (ho.below (Nat.le_refl _))
        have HB2 := hid hb2
        have HR2 := hid hr
        clear ho hr hb2
        go_wp2_with fail
        refine Calls.mono (HPB.out W2) ?_
        intro e W3 hp
        obtain ⟨hb3, A', B', C', D', rfl, hnd, p1, p2, p3, p4⟩ := hp.node
        have HB3 := hid hb3
        have HN3 := hid hnd
        clear hb3 hnd hp
        go_wp2_with (first
          | (refine store_msg infoN rfl _ _ rfl W3.heap.size A' B' C' D' p1 p2 p3 p4 rfl rfl _ (heap_alloc_new W3 _) rfl ?_)
          | fail)
        intro W4 ho hr
        have hb4 : Below W3.heap.size W3 W4 := ((Below.refl _ _).alloc (Nat.le_refl _) _).trans (ho.below (Nat.le_refl _))
        have HB4 := hid hb4
        have hl1 := loadN_run (row_keep hb4 (row_keep HB3.out HR2.out)) rfl
        have hl2 := loadN_run hr rfl
        have HN4 := hid (HN3.out.below hb4 (Nat.le_refl _))
        have HN5 := hid (((HN1.out.below HB2.out (Nat.le_refl _)).below HB3.out (Nat.le_refl _)).below hb4 (Nat.le_refl _))
        have HBW : Hid (Below w.heap.size w W4) := by
          have a1 := HB1.out.trans (HB2.out.mono HB1.out.size)
          have a2 := a1.trans (HB3.out.mono a1.size)
          exact a2.trans (hb4.mono a2.size)
        have HSC := hid (HSM.out _ _ _ _ W4 HN5.out HN4.out)
        clear ho hr hb4 o1 o2 o3 o4 p1 p2 p3 p4
        have hee : (((eOf V : Nat) : Int) == ((eOf V : Nat) : Int)) = true := by simp
        go_wp2_with fail
        refine Calls.mono HSC.out ?_
        rintro e W5 ⟨rfl, hb5⟩
        have HB5 := hid (HBW.out.trans (hb5.mono HBW.out.size))
        clear hb5
        go_wp2_with fail
        refine Calls.mono (HAW.out W5 (Nat.le_trans H8.out HB5.out.size) (HT.out.below HB5.out)) ?_
        rintro e W6 ⟨rfl, hb6⟩
        have HB6 := hid (HB5.out.trans (hb6.mono HB5.out.size))
        clear hb6
        go_wp2_with fail
        go_ret
        exact ⟨rfl, HB6.out⟩
    refine walk _ rfl (fun h => ?_)
    have h4 := of_decide_eq_true h
    rw [hn] at h4 ⊢
    exact decide_eq_false (by omega)
theorem asS_back (a : ByteArray) : asS a.data.toList = a := by
  cases a
  simp [asS]
theorem parses13_walk (a : ByteArray) (w : World) (hT : TabX w) : Calls Tryz.prog 4 #[.string a] w fun e w' => e = .returned (.bool true) ∧ Below w.heap.size w w' := by
  have := parses13_law a.data.toList w hT
  rw [asS_back] at this
  exact this
end Go.Proofs.YthjibliaofmlhaaGreatDoor
