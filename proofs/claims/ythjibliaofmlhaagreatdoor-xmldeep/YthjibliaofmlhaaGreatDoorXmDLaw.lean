
/- Files as deep, and as great, as may be: what XmlDeep does, where attributes of package xml does what it is to. -/
import Derived.Test.YthjibliaofmlhaaGreatDoorXmAw
import Derived.Test.YthjibliaofmlhaaGreatDoorXmRFold
namespace Go.Proofs.YthjibliaofmlhaaGreatDoor
set_option linter.unusedVariables false
set_option linter.unusedSimpArgs false
open Go.RowKit Go.BigFrame
attribute [local go_sem ↓] loadN_eq storeN_eq

theorem many_pos : ∀ (d : Nat) (t : Tr d), 1 ≤ manyT d t := fun d t => by rw [many_eq]; omega
theorem len_sum {α : Type} (f : α → Nat) : ∀ l : List α, (∀ a ∈ l, 1 ≤ f a) → l.length ≤ (l.map f).sum
  | [], _ => by simp
  | a :: l, h => by
    have h1 := h a List.mem_cons_self
    have h2 := len_sum f l (fun x hx => h x (List.mem_cons_of_mem _ hx))
    simp only [List.length_cons, List.map_cons, List.sum_cons]
    omega
theorem fit_many (N : Nat) : ∀ (d : Nat) (t : Tr d), manyT d t ≤ N → KidsFit N d t
  | 0, _, _ => trivial
  | d + 1, t, h => by
    have h1 : manyT (d + 1) t = 1 + (if (nmT (d + 1) t).isEmpty then 0 else (lab (d + 1) t).2.1.length) + (t.2.map (manyT d)).sum := many_eq (d + 1) t
    have h2 := len_sum (manyT d) t.2 (fun a _ => many_pos d a)
    refine ⟨by omega, fun k hk => fit_many N d k ?_⟩
    have := sum_mem (manyT d) hk
    omega
theorem rep_add (k : Nat) (l : List UInt8) : asS (repL k l) ++ asS l = asS (repL (k + 1) l) := by rw [asS_app, repL_snoc]
theorem rep_add2 (x : List UInt8) (k : Nat) (l : List UInt8) : asS (x ++ repL k l) ++ asS l = asS (x ++ repL (k + 1) l) := by rw [asS_app, repL_snoc, List.append_assoc]
theorem nest_cat (n m : Nat) : asS (repL n aO ++ repL m bE) ++ asS (repL n aC) = asS (nest n m []) := by
  rw [asS_app]
  unfold nest
  rw [List.append_nil, List.append_assoc]
set_option maxHeartbeats 2000000 in
set_option maxRecDepth 100000 in
theorem deep_law (HAT : AtOk) (a b : Nat) (ha : a < 256) (hb : b < 65536) (w : World) (h8 : 8 ≤ w.heap.size) (hT : TabE w) : Calls Tryz.prog 6 #[.int .u8 (a : Int), .int .u16 (b : Int)] w fun e w' => e = .returned (.bool true) ∧ Below w.heap.size w w' := by
  have HPA := hid (fun (s : List UInt8) W h1 h2 => parse13_any HAT s W h1 h2)
  have HAW := hid (fun W h1 h2 => awake13_any HAT W h1 h2)
  have HT := hid hT
  have H8 := hid h8
  obtain ⟨n, hn⟩ : ∃ n, n = a % 20 := ⟨_, rfl⟩
  obtain ⟨m, hm⟩ : ∃ m, m = b % 4200 := ⟨_, rfl⟩
  have hn19 : n ≤ 19 := by omega
  have hm19 : m ≤ 4199 := by omega
  have HPD := hid (par_deep n m hn19 hm19)
  have e1 : ((a : Int).tmod 20) = (n : Int) := by rw [hn]; rfl
  have e2 : ((b : Int).tmod 4200) = (m : Int) := by rw [hm]; rfl
  have HA1 : Hid (∀ k, asS (repL k aO) ++ ⟨#[60, 97, 62]⟩ = asS (repL (k + 1) aO)) := fun k => rep_add k aO
  have HA2 : Hid (∀ k, asS (repL k aC) ++ ⟨#[60, 47, 97, 62]⟩ = asS (repL (k + 1) aC)) := fun k => rep_add k aC
  have HA3 : Hid (∀ k, asS (repL (n + 1) aO ++ repL k bE) ++ ⟨#[60, 98, 47, 62]⟩ = asS (repL (n + 1) aO ++ repL (k + 1) bE)) := fun k => rep_add2 _ k bE
  have HA4 := hid (nest_cat (n + 1) m)
  have HZ1 : Hid (∀ k, (asS (repL k aO)).size = k * 3) := fun k => by show _ = _; rw [asS_size, repL_len]; rfl
  have HZ2 : Hid (∀ k, (asS (repL k aC)).size = k * 4) := fun k => by show _ = _; rw [asS_size, repL_len]; rfl
  have HZ3 : Hid (∀ k, (asS (repL (n + 1) aO ++ repL k bE)).size = (n + 1) * 3 + k * 4) := fun k => by show _ = _; rw [asS_size, List.length_append, repL_len, repL_len]; rfl
  have HZ5 : Hid (asS (repL (n + 1) aO) = asS (repL (n + 1) aO ++ repL 0 bE)) := by show _ = _; rw [repL_zero, List.append_nil]
  clear HAT hT h8 hn hm
  go_enter Tryz.func6, Tryz.ntmps6
  go_wp2_with fail
  go_loop [5, 6, 8] (fun s5 s6 i => ∃ k : Nat, k ≤ n + 1 ∧ i = .int .i64 (k : Int) ∧ s5 = .string (asS (repL k aO)) ∧ s6 = .string (asS (repL k aC))) (fun s5 s6 i => n + 1 - (intOf i).toNat)
  case atStart => exact ⟨0, Nat.zero_le _, rfl, rfl, rfl⟩
  case round =>
    obtain ⟨k, hk, rfl, rfl, rfl⟩ := hrel
    by_cases hlt : k < n + 1
    · have hi : (k : Int) < 1 + (n : Int) := by omega
      have z1 : (asS (repL k aO)).size ≤ 100 := by rw [HZ1.out]; omega
      have z2 : (asS (repL k aC)).size ≤ 100 := by rw [HZ2.out]; omega
      have x1 := HA1.out k
      have x2 := HA2.out k
      generalize asS (repL k aO) = S1 at z1 x1
      generalize asS (repL k aC) = S2 at z2 x2
      go_wp2_with fail
      go_round
      case rel => exact ⟨k + 1, by omega, by go_num, rfl, rfl⟩
      case measure => simp [intOf]; omega
    · have hi : ¬ (k : Int) < 1 + (n : Int) := by omega
      obtain rfl : k = n + 1 := by omega
      clear hlt hk
      rw [HZ5.out]
      generalize hS6 : asS (repL (n + 1) aC) = S6 at HA4
      have HS6 : Hid (S6.size ≤ 100) := by show _ ≤ _; rw [← hS6, HZ2.out]; omega
      clear hS6
      go_wp2_with fail
      go_loop [5, 10] (fun s5 i => ∃ k : Nat, k ≤ m ∧ i = .int .i64 (k : Int) ∧ s5 = .string (asS (repL (n + 1) aO ++ repL k bE))) (fun s5 i => m - (intOf i).toNat)
      case atStart => exact ⟨0, Nat.zero_le _, rfl, rfl⟩
      case round =>
        obtain ⟨k, hk, rfl, rfl⟩ := hrel
        by_cases hlt : k < m
        · have hi2 : (k : Int) < (m : Int) := by omega
          have z3 : (asS (repL (n + 1) aO ++ repL k bE)).size ≤ 20000 := by rw [HZ3.out]; omega
          have x3 := HA3.out k
          generalize asS (repL (n + 1) aO ++ repL k bE) = S3 at z3 x3
          go_wp2_with fail
          go_round
          case rel => exact ⟨k + 1, by omega, by go_num, rfl⟩
          case measure => simp [intOf]; omega
        · have hi2 : ¬ (k : Int) < (m : Int) := by omega
          obtain rfl : k = m := by omega
          clear hlt hk
          have z3 : (asS (repL (n + 1) aO ++ repL k bE)).size ≤ 20000 := by rw [HZ3.out]; omega
          have z6 := HS6.out
          have x4 := HA4.out
          generalize asS (repL (n + 1) aO ++ repL k bE) = S3 at z3 x4
          have HPC := hid (HPA.out (nest (n + 1) k []) w H8.out HT.out)
          generalize hSN : asS (nest (n + 1) k []) = SN at x4 HPC
          clear hSN
          go_wp2_with fail
          refine HPC.out.mono ?_
          rintro e W1 ⟨hb1, hres⟩
          have HB1 := hid hb1
          have HT1 := hid (HT.out.below hb1)
          have HZW := hid hb1.size
          clear hb1
          obtain ⟨d1, d2, d3, d4⟩ := HPD.out
          by_cases g1 : 16 < n + 1
          · have t1 : (16 : Int) < 1 + (n : Int) := by omega
            have hV := d1 g1
            clear d1 d2 d3 d4 g1
            obtain ⟨er, hE, rfl⟩ : ∃ er : Nat, er = 9 ∧ e = .returned (.tuple #[.agg #[.string ⟨#[]⟩, .slice none 0 0, .string ⟨#[]⟩, .slice none 0 0], .int .i64 er]) := by
              rcases hres with ⟨t, cs, h1, _⟩ | ⟨er, h1, _, h2⟩
              · rw [hV] at h1; cases h1
              · rw [hV] at h1; injection h1 with h1; exact ⟨er, h1.symm, h2⟩
            subst hE
            clear hres hV
            go_wp2_with (first
              | (refine store_msg infoN rfl _ _ rfl W1.heap.size _ _ _ _ rfl rfl rfl rfl rfl rfl _ (heap_alloc_new W1 _) rfl ?_)
              | fail)
            intro W2 ho2 hr2
            have hb2 := ((Below.refl _ W1).alloc (Nat.le_refl _) (.cells #[.string ⟨#[]⟩, .slice none 0 0, .string ⟨#[]⟩, .slice none 0 0] 25)).trans (ho2.below (Nat.le_refl _))
            have HB2 := hid (HB1.out.trans (hb2.mono HB1.out.size))
            have HC2 := hid (HAW.out W2 (by have := H8.out; have := HB2.out.size; omega) (HT1.out.below hb2))
            clear ho2 hr2 hb2
            go_wp2_with fail
            refine HC2.out.mono ?_
            rintro e W3 ⟨rfl, hb3⟩
            have HB3 := hid (HB2.out.trans (hb3.mono HB2.out.size))
            clear hb3
            go_wp2_with fail
            go_ret
            exact ⟨rfl, HB3.out⟩
          · have t1 : ¬ (16 : Int) < 1 + (n : Int) := by omega
            by_cases g2 : n + 1 = 16
            · have t2 : ((1 + (n : Int)) == 16) = true := by rw [beq_iff_eq]; omega
              by_cases g3 : 0 < k
              · have t3 : (0 : Int) < (k : Int) := by omega
                have hV := d2 g2 g3
                clear d1 d2 d3 d4 g1 g2
                obtain ⟨er, hE, rfl⟩ : ∃ er : Nat, er = 9 ∧ e = .returned (.tuple #[.agg #[.string ⟨#[]⟩, .slice none 0 0, .string ⟨#[]⟩, .slice none 0 0], .int .i64 er]) := by
                  rcases hres with ⟨t, cs, h1, _⟩ | ⟨er, h1, _, h2⟩
                  · rw [hV] at h1; cases h1
                  · rw [hV] at h1; injection h1 with h1; exact ⟨er, h1.symm, h2⟩
                subst hE
                clear hres hV
                go_wp2_with (first
                  | (refine store_msg infoN rfl _ _ rfl W1.heap.size _ _ _ _ rfl rfl rfl rfl rfl rfl _ (heap_alloc_new W1 _) rfl ?_)
                  | fail)
                intro W2 ho2 hr2
                have hb2 := ((Below.refl _ W1).alloc (Nat.le_refl _) (.cells #[.string ⟨#[]⟩, .slice none 0 0, .string ⟨#[]⟩, .slice none 0 0] 25)).trans (ho2.below (Nat.le_refl _))
                have HB2 := hid (HB1.out.trans (hb2.mono HB1.out.size))
                have HC2 := hid (HAW.out W2 (by have := H8.out; have := HB2.out.size; omega) (HT1.out.below hb2))
                clear ho2 hr2 hb2
                go_wp2_with fail
                refine HC2.out.mono ?_
                rintro e W3 ⟨rfl, hb3⟩
                have HB3 := hid (HB2.out.trans (hb3.mono HB2.out.size))
                clear hb3
                go_wp2_with fail
                go_ret
                exact ⟨rfl, HB3.out⟩
              · have t3 : ¬ (0 : Int) < (k : Int) := by omega
                have t4 : ¬ (4096 : Int) < 1 + (n : Int) + (k : Int) := by omega
                obtain ⟨t, hV, hdt, hmt⟩ := d4 (by omega) (by omega) (by omega)
                clear d1 d2 d3 d4 g1 g2 g3
                obtain ⟨cs, rfl, hnd⟩ : ∃ cs, e = .returned (.tuple #[.agg cs, .int .i64 0]) ∧ NdAt (fun q => w.heap.size ≤ q) 40 W1 cs t := by
                  rcases hres with ⟨t', cs, h1, h2, h3⟩ | ⟨er, h1, _⟩
                  · rw [hV] at h1; injection h1 with h1; subst h1; exact ⟨cs, h2, h3⟩
                  · rw [hV] at h1; cases h1
                clear hres hV
                obtain ⟨aA, ac, kA, kc, hcs, _⟩ := hnd.parts
                obtain ⟨A, B, C, D, hcs2, o1, o2, o3, o4⟩ := nd_four hnd
                clear hcs
                subst hcs2
                have HND := hid hnd
                clear hnd
                go_wp2_with (first
                  | (refine store_msg infoN rfl _ _ rfl W1.heap.size A B C D o1 o2 o3 o4 rfl rfl _ (heap_alloc_new W1 _) rfl ?_)
                  | fail)
                intro W2 ho2 hr2
                have hb2 := ((Below.refl _ W1).alloc (Nat.le_refl _) (.cells #[.string ⟨#[]⟩, .slice none 0 0, .string ⟨#[]⟩, .slice none 0 0] 25)).trans (ho2.below (Nat.le_refl _))
                have HB2 := hid (HB1.out.trans (hb2.mono HB1.out.size))
                have HT2 := hid (HT1.out.below hb2)
                have HND2 := hid (HND.out.below hb2 (Nat.le_refl _))
                have HR2 := hid hr2
                have hld2 := loadN_run hr2 rfl
                have HDE := hid (refDeep_any (fun q => w.heap.size ≤ q) 40 t (by decide) (fit_many 1000000 40 t (by omega)) #[A, B, C, D] W2 HND2.out)
                have HMA := hid (fun W hW => refMany_any (fun q => w.heap.size ≤ q) 40 t (by omega) (fit_many 1000000 40 t (by omega)) #[A, B, C, D] W hW)
                generalize deepT 40 t = DT at hdt HDE
                rw [hmt] at HMA
                have hmt2 : ((n + 1 + k : Nat) : Int) = 1 + (n : Int) + (k : Int) := by omega
                rw [hmt2] at HMA
                have hdl : (DT : Int) ≤ 1 + (n : Int) + 1 := by omega
                clear ho2 hr2 hb2 hdt hmt hmt2
                go_wp2_with fail
                refine HDE.out.mono ?_
                rintro e W3 ⟨rfl, hb3⟩
                have HB3 := hid (HB2.out.trans (hb3.mono HB2.out.size))
                have HT3 := hid (HT2.out.below hb3)
                have HMC := hid (HMA.out W3 (HND2.out.below hb3 (Nat.le_refl _)))
                have hld3 := loadN_run (row_keep hb3 HR2.out) rfl
                clear hb3
                go_wp2_with fail
                refine HMC.out.mono ?_
                rintro e W4 ⟨rfl, hb4⟩
                have HB4 := hid (HB3.out.trans (hb4.mono HB3.out.size))
                have HC4 := hid (HAW.out W4 (by have := H8.out; have := HB4.out.size; omega) (HT3.out.below hb4))
                clear hb4
                go_wp2_with fail
                refine HC4.out.mono ?_
                rintro e W5 ⟨rfl, hb5⟩
                have HB5 := hid (HB4.out.trans (hb5.mono HB4.out.size))
                clear hb5
                go_wp2_with fail
                go_ret
                exact ⟨rfl, HB5.out⟩
            · have t2 : ((1 + (n : Int)) == 16) = false := by rw [beq_eq_false_iff_ne]; omega
              by_cases g3 : 4096 < n + 1 + k
              · have t4 : (4096 : Int) < 1 + (n : Int) + (k : Int) := by omega
                have hV := d3 (by omega) (by omega) g3
                clear d1 d2 d3 d4 g1 g2
                obtain ⟨er, hE, rfl⟩ : ∃ er : Nat, er = 3 ∧ e = .returned (.tuple #[.agg #[.string ⟨#[]⟩, .slice none 0 0, .string ⟨#[]⟩, .slice none 0 0], .int .i64 er]) := by
                  rcases hres with ⟨t, cs, h1, _⟩ | ⟨er, h1, _, h2⟩
                  · rw [hV] at h1; cases h1
                  · rw [hV] at h1; injection h1 with h1; exact ⟨er, h1.symm, h2⟩
                subst hE
                clear hres hV
                go_wp2_with (first
                  | (refine store_msg infoN rfl _ _ rfl W1.heap.size _ _ _ _ rfl rfl rfl rfl rfl rfl _ (heap_alloc_new W1 _) rfl ?_)
                  | fail)
                intro W2 ho2 hr2
                have hb2 := ((Below.refl _ W1).alloc (Nat.le_refl _) (.cells #[.string ⟨#[]⟩, .slice none 0 0, .string ⟨#[]⟩, .slice none 0 0] 25)).trans (ho2.below (Nat.le_refl _))
                have HB2 := hid (HB1.out.trans (hb2.mono HB1.out.size))
                have HC2 := hid (HAW.out W2 (by have := H8.out; have := HB2.out.size; omega) (HT1.out.below hb2))
                clear ho2 hr2 hb2
                go_wp2_with fail
                refine HC2.out.mono ?_
                rintro e W3 ⟨rfl, hb3⟩
                have HB3 := hid (HB2.out.trans (hb3.mono HB2.out.size))
                clear hb3
                go_wp2_with fail
                go_ret
                exact ⟨rfl, HB3.out⟩
              · have t4 : ¬ (4096 : Int) < 1 + (n : Int) + (k : Int) := by omega
                obtain ⟨t, hV, hdt, hmt⟩ := d4 (by omega) (by omega) (by omega)
                clear d1 d2 d3 d4 g1 g2 g3
                obtain ⟨cs, rfl, hnd⟩ : ∃ cs, e = .returned (.tuple #[.agg cs, .int .i64 0]) ∧ NdAt (fun q => w.heap.size ≤ q) 40 W1 cs t := by
                  rcases hres with ⟨t', cs, h1, h2, h3⟩ | ⟨er, h1, _⟩
                  · rw [hV] at h1; injection h1 with h1; subst h1; exact ⟨cs, h2, h3⟩
                  · rw [hV] at h1; cases h1
                clear hres hV
                obtain ⟨aA, ac, kA, kc, hcs, _⟩ := hnd.parts
                obtain ⟨A, B, C, D, hcs2, o1, o2, o3, o4⟩ := nd_four hnd
                clear hcs
                subst hcs2
                have HND := hid hnd
                clear hnd
                go_wp2_with (first
                  | (refine store_msg infoN rfl _ _ rfl W1.heap.size A B C D o1 o2 o3 o4 rfl rfl _ (heap_alloc_new W1 _) rfl ?_)
                  | fail)
                intro W2 ho2 hr2
                have hb2 := ((Below.refl _ W1).alloc (Nat.le_refl _) (.cells #[.string ⟨#[]⟩, .slice none 0 0, .string ⟨#[]⟩, .slice none 0 0] 25)).trans (ho2.below (Nat.le_refl _))
                have HB2 := hid (HB1.out.trans (hb2.mono HB1.out.size))
                have HT2 := hid (HT1.out.below hb2)
                have HND2 := hid (HND.out.below hb2 (Nat.le_refl _))
                have HR2 := hid hr2
                have hld2 := loadN_run hr2 rfl
                have HDE := hid (refDeep_any (fun q => w.heap.size ≤ q) 40 t (by decide) (fit_many 1000000 40 t (by omega)) #[A, B, C, D] W2 HND2.out)
                have HMA := hid (fun W hW => refMany_any (fun q => w.heap.size ≤ q) 40 t (by omega) (fit_many 1000000 40 t (by omega)) #[A, B, C, D] W hW)
                generalize deepT 40 t = DT at hdt HDE
                rw [hmt] at HMA
                have hmt2 : ((n + 1 + k : Nat) : Int) = 1 + (n : Int) + (k : Int) := by omega
                rw [hmt2] at HMA
                have hdl : (DT : Int) ≤ 1 + (n : Int) + 1 := by omega
                clear ho2 hr2 hb2 hdt hmt hmt2
                go_wp2_with fail
                refine HDE.out.mono ?_
                rintro e W3 ⟨rfl, hb3⟩
                have HB3 := hid (HB2.out.trans (hb3.mono HB2.out.size))
                have HT3 := hid (HT2.out.below hb3)
                have HMC := hid (HMA.out W3 (HND2.out.below hb3 (Nat.le_refl _)))
                have hld3 := loadN_run (row_keep hb3 HR2.out) rfl
                clear hb3
                go_wp2_with fail
                refine HMC.out.mono ?_
                rintro e W4 ⟨rfl, hb4⟩
                have HB4 := hid (HB3.out.trans (hb4.mono HB3.out.size))
                have HC4 := hid (HAW.out W4 (by have := H8.out; have := HB4.out.size; omega) (HT3.out.below hb4))
                clear hb4
                go_wp2_with fail
                refine HC4.out.mono ?_
                rintro e W5 ⟨rfl, hb5⟩
                have HB5 := hid (HB4.out.trans (hb5.mono HB4.out.size))
                clear hb5
                go_wp2_with fail
                go_ret
                exact ⟨rfl, HB5.out⟩
end Go.Proofs.YthjibliaofmlhaaGreatDoor
