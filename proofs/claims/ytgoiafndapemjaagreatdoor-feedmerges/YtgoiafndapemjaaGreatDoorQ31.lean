import Derived.Test.YtgoiafndapemjaaGreatDoorQ30
set_option linter.unusedVariables false
set_option linter.unusedSimpArgs false
set_option maxHeartbeats 1000000
namespace Go.Proofs.YtgoiafndapemjaaGreatDoor
open Go.RowKit Go.BigFrame
attribute [local go_sem ↓] loadE_eq
theorem fit_all {N : Nat} {old fresh : List EnV} (h1 : FitE N old) (h2 : FitE N fresh) : FitE N (allU EnV.id old fresh) := by
 intro e he
 unfold allU at he
 rcases List.mem_append.1 he with h | h
 ·exact h2 e (List.mem_filter.1 h).1
 ·obtain ⟨x, hx, rfl⟩ := List.mem_map.1 h
  unfold replK
  rw [List.getD_eq_getElem?_getD]
  by_cases hp : plK EnV.id fresh x.id < fresh.length
  ·rw [List.getElem?_eq_getElem hp]
   exact h2 _ (List.getElem_mem hp)
  ·rw [List.getElem?_eq_none (by omega)]
   exact h1 x hx
theorem MapI.keep {w W : World} {B n b : Nat} {l : List EnV} (h : MapI w B n l) (hb : Below b w W) (hB : B < b) : MapI W B n l := h.same (hb.block B hB)
def freshU (old fresh : List EnV) (k : Nat) : List EnV := (fresh.take k).filter fun x => !hasK EnV.id old x.id
def oldU (old fresh : List EnV) (k : Nat) : List EnV := freshU old fresh fresh.length ++ (old.take k).map (replK EnV.id fresh)
theorem freshU_step (old fresh : List EnV) (k : Nat) (hk : k < fresh.length) : freshU old fresh (k + 1) = if hasK EnV.id old (fresh.getD k zeroE).id = true then freshU old fresh k else freshU old fresh k ++ [fresh.getD k zeroE] := by
 unfold freshU
 rw [take_sn fresh k zeroE hk, List.filter_append]
 generalize fresh.getD k zeroE = x
 cases hq : hasK EnV.id old x.id with
 | true => rw [if_pos rfl, List.filter_cons_of_neg (by rw [hq]; simp), List.filter_nil, List.append_nil]
 | false => rw [if_neg (by simp), List.filter_cons_of_pos (by rw [hq]; simp), List.filter_nil]
theorem freshU_len (old fresh : List EnV) (k : Nat) : (freshU old fresh k).length ≤ fresh.length := by
 unfold freshU
 have h1 := List.length_filter_le (fun x => !hasK EnV.id old x.id) (fresh.take k)
 rw [List.length_take] at h1
 omega
theorem oldU_step (old fresh : List EnV) (k : Nat) (hk : k < old.length) : oldU old fresh (k + 1) = oldU old fresh k ++ [replK EnV.id fresh (old.getD k zeroE)] := by
 unfold oldU
 rw [take_sn old k zeroE hk, List.map_append, ← List.append_assoc]
 rfl
theorem oldU_len (old fresh : List EnV) (k : Nat) : (oldU old fresh k).length ≤ fresh.length + old.length := by
 unfold oldU
 have h1 := freshU_len old fresh fresh.length
 rw [List.length_append, List.length_map, List.length_take]
 omega
theorem oldU_zero (old fresh : List EnV) : oldU old fresh 0 = freshU old fresh fresh.length := by
 unfold oldU; simp
theorem oldU_all (old fresh : List EnV) (k : Nat) (hk : old.length ≤ k) : oldU old fresh k = allU EnV.id old fresh := by
 unfold oldU freshU allU
 rw [List.take_of_length_le hk, List.take_of_length_le (Nat.le_refl _)]
theorem repl_no (fresh : List EnV) (x : EnV) (h : hasK EnV.id fresh x.id = false) : replK EnV.id fresh x = x := by
 unfold replK
 rw [pl_no EnV.id fresh x.id h, List.getD_eq_getElem?_getD, List.getElem?_eq_none (Nat.le_refl _)]
 rfl
theorem repl_yes (fresh : List EnV) (x : EnV) (h : hasK EnV.id fresh x.id = true) : replK EnV.id fresh x = fresh.getD (plK EnV.id fresh x.id) zeroE := by
 unfold replK
 have hp := (pl_lt EnV.id fresh x.id).2 h
 rw [List.getD_eq_getElem?_getD, List.getD_eq_getElem?_getD, List.getElem?_eq_getElem hp]
 rfl
set_option maxHeartbeats 2000000 in
set_option maxRecDepth 100000 in
theorem merge_any (old fresh : List EnV) (n1 n2 : Nat) (hn1 : old.length = n1) (hn2 : fresh.length = n2) (hl1 : n1 ≤ 100000) (hl2 : n2 ≤ 100000) (hf1 : FitE 140737488355328 old) (hf2 : FitE 140737488355328 fresh) (A1 A2 : Option Addr) (c1 c2 : Nat) (w : World) (hA1 : EntsAt w A1 old) (hA2 : EntsAt w A2 fresh) : Calls Tryz.prog 21 #[.slice A1 n1 c1, .slice A2 n2 c2] w fun e w' => ∃ v, e = .returned v ∧ OwnE w' w.heap.size v (mergeU EnV.id old fresh) ∧ Below w.heap.size w w' := by
 have HA1 := hid hA1
 have HA2 := hid hA2
 have HF1 := hid hf1
 have HF2 := hid hf2
 have HN1 := hid hn1
 have HN2 := hid hn2
 have HSP1 := hid (spots_any old n1 hn1 (by omega) hf1 A1 c1 w hA1)
 have HSP2 : Hid (∀ W, Below w.heap.size w W → Calls Tryz.prog 50 #[.slice A2 n2 c2] W fun e w' => e = .returned (.map (some W.heap.size)) ∧ MapI w' W.heap.size n2 fresh ∧ Below W.heap.size W w') := fun W hb => spots_any fresh n2 hn2 (by omega) hf2 A2 c2 W (hA2.below hb (Nat.le_refl _))
 have HFI : Hid (∀ A c n W, EntsAt W A (allU EnV.id old fresh) → (allU EnV.id old fresh).length = n → Calls Tryz.prog 51 #[.slice A n c] W fun e w' => ∃ v, e = .returned v ∧ OwnE w' W.heap.size v (mergeU EnV.id old fresh) ∧ Below W.heap.size W w') := fun A c n W h1 h2 => firsts_any (allU EnV.id old fresh) n h2 (by have := all_len EnV.id old fresh; omega) (fit_all hf1 hf2) A c W h1
 have HFS := hid (fun k hk => freshU_step old fresh k hk)
 have HOS := hid (fun k hk => oldU_step old fresh k hk)
 have HFL : Hid (∀ k, (freshU old fresh k).length ≤ 100000) := fun k => by have := freshU_len old fresh k; show _ ≤ _; omega
 have HOL : Hid (∀ k, (oldU old fresh k).length ≤ 200000) := fun k => by have := oldU_len old fresh k; show _ ≤ _; omega
 have HOA : Hid (oldU old fresh n1 = allU EnV.id old fresh) := oldU_all old fresh n1 (by omega)
 have HOZ : Hid (oldU old fresh 0 = freshU old fresh n2) := by show _ = _; rw [oldU_zero, hn2]
 have HRN := hid (fun x h => repl_no fresh x h)
 have HRY := hid (fun x h => repl_yes fresh x h)
 have HPL : Hid (∀ x, hasK EnV.id fresh x = true → plK EnV.id fresh x < n2) := fun x h => by have := (pl_lt EnV.id fresh x).2 h; omega
 clear hA1 hA2 hf1 hf2 hn1 hn2
 go_enter Tryz.func21, Tryz.ntmps21
 go_wp2_with fail
 refine HSP1.out.mono ?_
 rintro e0 W1 ⟨rfl, hm1, hb1⟩
 have HM1 := hid hm1
 have HB1 := hid hb1
 clear hm1 hb1 HSP1
 go_wp2_with fail
 refine (HSP2.out W1 HB1.out).mono ?_
 rintro e0 W2 ⟨rfl, hm2, hb2⟩
 have HM2 := hid hm2
 have HMO := hid (HM1.out.below hb2)
 have HB2 := hid (bel_c HB1.out hb2)
 have hz1 : w.heap.size < W1.heap.size := HM1.out.lt
 have hz2 : W1.heap.size < W2.heap.size := HM2.out.lt
 clear hm2 hb2 HSP2 HM1 HB1
 go_wp2_with fail
 go_loopw [7, 22] (fun v i wr => ∃ k : Nat, k ≤ n2 ∧ i = .int .i64 (k : Int) ∧ Hid (OwnE wr W2.heap.size v (freshU old fresh k)) ∧ Hid (MapI wr w.heap.size n1 old) ∧ Hid (MapI wr W1.heap.size n2 fresh) ∧ Hid (Below w.heap.size w wr) ∧ Hid (W2.heap.size ≤ wr.heap.size)) (fun v i wr => n2 - (intOf i).toNat)
 case atStart => exact ⟨0, Nat.zero_le _, rfl, OwnE.nil _ _, HMO.out, HM2.out, HB2.out, Nat.le_refl _⟩
 case round =>
  obtain ⟨k, hk, rfl, HO, HMA, HMB, HB, HSZ⟩ := hrel
  by_cases hlt : k < n2
  ·have hi : (k : Int) < (n2 : Int) := by omega
   have hkl : k < fresh.length := by have := HN2.out; omega
   obtain ⟨q, o, rfl, hq, hld⟩ := (HA2.out.below HB.out (Nat.le_refl _)).load k hkl
   have HE := hid (HF2.out _ (ent_get hkl)).1
   have HST := hid (HFS.out k hkl)
   have HLE := hid (HFL.out k)
   obtain ⟨A', c', hsh⟩ := HO.out.shape
   clear hkl
   generalize fresh.getD k zeroE = e at hld HE HST
   unfold ecs at hld
   generalize hS : asS e.id = S1 at hld
   have HS1 := hid hS
   clear hS
   generalize hS : asS e.title = S2 at hld
   have HS2 := hid hS
   clear hS
   generalize hS : asS e.link = S3 at hld
   have HS3 := hid hS
   clear hS
   generalize hS : asS e.body = S4 at hld
   have HS4 := hid hS
   clear hS
   generalize hS : e.time = T1 at hld
   have HT1 := hid hS
   clear hS
   generalize hS : e.dated = D1 at hld
   have HD1 := hid hS
   clear hS
   have HEC : Hid (ecs e = #[.string S1, .string S2, .string S3, .string S4, .int .i64 T1, .bool D1]) := by
    show _ = _
    unfold ecs
    rw [HS1.out, HS2.out, HS3.out, HS4.out, HT1.out, HD1.out]
   clear HS2 HS3 HS4 HT1 HD1
   generalize freshU old fresh k = fk at HO HST HLE hsh
   obtain ⟨V, hV⟩ : ∃ V, wr.alloc (.cells #[.string S1, .string S2, .string S3, .string S4, .int .i64 T1, .bool D1] 40) = V := ⟨_, rfl⟩
   have hrow : V.heap[wr.heap.size]? = some (.cells #[.string S1, .string S2, .string S3, .string S4, .int .i64 T1, .bool D1] 40 (0, 0)) := by rw [← hV]; exact heap_alloc_new wr _
   have hbV : Below wr.heap.size wr V := by rw [← hV]; exact (Below.refl _ _).alloc (Nat.le_refl _) _
   have c0 : V.cell? ⟨wr.heap.size, 0, none⟩ = some (.string S1) := cell_of_row _ _ _ _ _ _ hrow
   have HBV := hid (HB.out.trans (hbV.mono HB.out.size))
   have HOV := hid (HO.out.below hbV)
   have HMAV := hid (HMA.out.below hbV)
   have HMBV := hid (HMB.out.below hbV)
   have HZV : Hid (W2.heap.size ≤ V.heap.size) := Nat.le_trans HSZ.out hbV.size
   have hldV := loadE_run hrow rfl
   clear hrow hbV
   rw [hsh] at HOV ⊢
   generalize hm : fk.length = m at HOV hsh HLE
   have HMM := hid hm
   clear hm
   cases hh : hasK EnV.id old e.id with
   | true =>
    have HH := hid hh
    rw [if_pos hh] at HST
    clear hh
    go_wp2_with (first
     | (at_lookup; refine wpList_askI rfl _ _ rfl w.heap.size n1 old rfl HMAV.out S1 e.id HS1.out.symm rfl HE.out true HH.out ?_; intro c9)
     | fail)
    go_roundw
    case rel => exact ⟨k + 1, by omega, by go_num, (by show OwnE _ _ _ _; rw [HST.out]; exact HOV.out), HMAV.out, HMBV.out, HBV.out, HZV.out⟩
    case measure => simp [intOf]; omega
   | false =>
    have HH := hid hh
    rw [if_neg (by rw [hh]; simp)] at HST
    clear hh
    go_wp2_with (first
     | (at_lookup; refine wpList_askI rfl _ _ rfl w.heap.size n1 old rfl HMAV.out S1 e.id HS1.out.symm rfl HE.out false HH.out ?_; intro c9)
     | (refine wpList_en rfl _ _ rfl W2.heap.size _ _ fk [e] rfl rfl (HOV.out.below ((Below.refl _ _).alloc (Nat.le_refl _) _)) (src_en _ e V.heap.size 1 (by rw [HEC.out]; exact heap_alloc_new V _)) (.inl (by simp)) (by have := HLE.out; rw [HMM.out]; simp; omega) (by have := HZV.out; simp; omega) ?_; intro v9 w9 h9 hb9; (have H9 := hid h9); (have HB9 := hid hb9); clear h9 hb9)
     | fail)
    go_roundw
    case rel =>
     have hcat : Below W2.heap.size V w9 := (((Below.refl V.heap.size V).alloc (Nat.le_refl _) _).mono HZV.out).trans HB9.out
     exact ⟨k + 1, by omega, by go_num, (by show OwnE _ _ _ _; rw [HST.out]; exact H9.out), HMAV.out.keep hcat (by omega), HMBV.out.keep hcat (by omega), HBV.out.trans (hcat.mono (by omega)), Nat.le_trans HZV.out hcat.size⟩
    case measure => simp [intOf]; omega
  ·have hi : ¬ (k : Int) < (n2 : Int) := by omega
   obtain rfl : k = n2 := by omega
   rw [← HOZ.out] at HO
   clear HFS HFL HOZ hlt hk HMO HM2 HB2
   have HB0 := hid HB.out
   have HZ0 := hid HSZ.out
   obtain ⟨W3, hW3⟩ : ∃ W3, W3 = wr := ⟨_, rfl⟩
   subst hW3
   go_wp2_with fail
   clear hi
   go_loopw [7, 42] (fun v i wr => ∃ j : Nat, j ≤ n1 ∧ i = .int .i64 (j : Int) ∧ Hid (OwnE wr W2.heap.size v (oldU old fresh j)) ∧ Hid (MapI wr W1.heap.size k fresh) ∧ Hid (Below w.heap.size w wr) ∧ Hid (W2.heap.size ≤ wr.heap.size)) (fun v i wr => n1 - (intOf i).toNat)
   case atStart => exact ⟨0, Nat.zero_le _, rfl, HO.out, HMB.out, HB.out, HSZ.out⟩
   case round =>
    obtain ⟨j, hj, rfl, HO, HMB, HB, HSZ⟩ := hrel
    by_cases hlt : j < n1
    ·have hi : (j : Int) < (n1 : Int) := by omega
     have hkl : j < old.length := by have := HN1.out; omega
     obtain ⟨q, o, rfl, hq, hld⟩ := (HA1.out.below HB.out (Nat.le_refl _)).load j hkl
     have HE := hid (HF1.out _ (ent_get hkl)).1
     have HST := hid (HOS.out j hkl)
     have HLE := hid (HOL.out j)
     obtain ⟨A', c', hsh⟩ := HO.out.shape
     clear hkl
     have HRNe := hid (HRN.out (old.getD j zeroE))
     have HRYe := hid (HRY.out (old.getD j zeroE))
     have HPLe := hid (HPL.out (old.getD j zeroE).id)
     generalize old.getD j zeroE = e at hld HE HST HRNe HRYe HPLe
     have HEQ : Hid (ecs e = ecs e) := rfl
     unfold ecs at hld
     generalize hS : asS e.id = S1 at hld
     have HS1 := hid hS
     clear hS
     generalize hS : asS e.title = S2 at hld
     have HS2 := hid hS
     clear hS
     generalize hS : asS e.link = S3 at hld
     have HS3 := hid hS
     clear hS
     generalize hS : asS e.body = S4 at hld
     have HS4 := hid hS
     clear hS
     generalize hS : e.time = T1 at hld
     have HT1 := hid hS
     clear hS
     generalize hS : e.dated = D1 at hld
     have HD1 := hid hS
     clear hS
     have HEC : Hid (ecs e = #[.string S1, .string S2, .string S3, .string S4, .int .i64 T1, .bool D1]) := by
      show _ = _
      unfold ecs
      rw [HS1.out, HS2.out, HS3.out, HS4.out, HT1.out, HD1.out]
     clear HS2 HS3 HS4 HT1 HD1
     generalize oldU old fresh j = fk at HO HST HLE hsh
     obtain ⟨V, hV⟩ : ∃ V, wr.alloc (.cells #[.string S1, .string S2, .string S3, .string S4, .int .i64 T1, .bool D1] 40) = V := ⟨_, rfl⟩
     have hrow : V.heap[wr.heap.size]? = some (.cells #[.string S1, .string S2, .string S3, .string S4, .int .i64 T1, .bool D1] 40 (0, 0)) := by rw [← hV]; exact heap_alloc_new wr _
     have hbV : Below wr.heap.size wr V := by rw [← hV]; exact (Below.refl _ _).alloc (Nat.le_refl _) _
     have c0 : V.cell? ⟨wr.heap.size, 0, none⟩ = some (.string S1) := cell_of_row _ _ _ _ _ _ hrow
     have HBV := hid (HB.out.trans (hbV.mono HB.out.size))
     have HOV := hid (HO.out.below hbV)
     have HMBV := hid (HMB.out.below hbV)
     have HZV : Hid (W2.heap.size ≤ V.heap.size) := Nat.le_trans HSZ.out hbV.size
     rw [hsh] at HOV HO ⊢
     generalize hm : fk.length = m at HOV HO hsh HLE
     have HMM := hid hm
     clear hm
     cases hh : hasK EnV.id fresh e.id with
     | false =>
      have HH := hid hh
      rw [HRNe.out hh] at HST
      have hldV := loadE_run hrow rfl
      clear hh hrow hbV HRYe HRNe HPLe
      go_wp2_with (first
       | (at_lookup; refine wpList_askI rfl _ _ rfl W1.heap.size k fresh rfl HMBV.out S1 e.id HS1.out.symm rfl HE.out false HH.out ?_; intro c9)
       | (refine wpList_en rfl _ _ rfl W2.heap.size _ _ fk [e] rfl rfl (HOV.out.below ((Below.refl _ _).alloc (Nat.le_refl _) _)) (src_en _ e V.heap.size 1 (by rw [HEC.out]; exact heap_alloc_new V _)) (.inl (by simp)) (by have := HLE.out; rw [HMM.out]; simp; omega) (by have := HZV.out; simp; omega) ?_; intro v9 w9 h9 hb9; (have H9 := hid h9); (have HB9 := hid hb9); clear h9 hb9)
       | fail)
      go_roundw
      case rel =>
       have hcat : Below W2.heap.size V w9 := (((Below.refl V.heap.size V).alloc (Nat.le_refl _) _).mono HZV.out).trans HB9.out
       exact ⟨j + 1, by omega, by go_num, (by show OwnE _ _ _ _; rw [HST.out]; exact H9.out), HMBV.out.keep hcat (by omega), HBV.out.trans (hcat.mono (by omega)), Nat.le_trans HZV.out hcat.size⟩
      case measure => simp [intOf]; omega
     | true =>
      have HH := hid hh
      rw [HRYe.out hh] at HST
      have hpl := HPLe.out hh
      generalize hpp : plK EnV.id fresh e.id = p at HST hpl
      have HPP := hid hpp
      have hpi : (p : Int) < (k : Int) := by omega
      have hpk : p < fresh.length := by have := HN2.out; omega
      obtain ⟨q2, o2, hA2e, hq2, hldf⟩ := (HA2.out.below HBV.out (Nat.le_refl _)).load p hpk
      obtain rfl := hA2e
      clear hh hpp hpk HRYe HRNe HPLe
      generalize fresh.getD p zeroE = f at hldf HST
      unfold ecs at hldf
      generalize hS : asS f.id = S1f at hldf
      have HS1f := hid hS
      clear hS
      generalize hS : asS f.title = S2f at hldf
      have HS2f := hid hS
      clear hS
      generalize hS : asS f.link = S3f at hldf
      have HS3f := hid hS
      clear hS
      generalize hS : asS f.body = S4f at hldf
      have HS4f := hid hS
      clear hS
      generalize hS : f.time = T1f at hldf
      have HT1f := hid hS
      clear hS
      generalize hS : f.dated = D1f at hldf
      have HD1f := hid hS
      clear hS
      have HECf : Hid (ecs f = #[.string S1f, .string S2f, .string S3f, .string S4f, .int .i64 T1f, .bool D1f]) := by
       show _ = _
       unfold ecs
       rw [HS1f.out, HS2f.out, HS3f.out, HS4f.out, HT1f.out, HD1f.out]
      clear HS2f HS3f HS4f HT1f HD1f
      go_wp2_with (first
       | (at_lookup; refine wpList_askI3 rfl _ _ rfl W1.heap.size k fresh rfl HMBV.out S1 e.id HS1.out.symm rfl HE.out HH.out p HPP.out ?_)
       | (refine wpList_store_abs rfl 40 (.tmp 13) (.tmp 57) rfl wr.heap.size 0 #[.string S1f, .string S2f, .string S3f, .string S4f, .int .i64 T1f, .bool D1f] rfl rfl 40 _ hrow (Nat.le_refl 6) infoE (ecs_any _ _ _ _ _ _) ?_; intro V2 hO2 hW2; rw [over_whole #[.string S1, .string S2, .string S3, .string S4, .int .i64 T1, .bool D1] #[.string S1f, .string S2f, .string S3f, .string S4f, .int .i64 T1f, .bool D1f] rfl] at hW2; have hldV2 := loadE_run hW2 rfl; (have HB2 := hid (hbV.trans (hO2.below (Nat.le_refl _)))); (have HO2 := hid (HO.out.below HB2.out)); clear hO2 hW2)
       | (refine wpList_en rfl _ _ rfl W2.heap.size _ _ fk [f] rfl rfl (HO2.out.below ((Below.refl _ _).alloc (Nat.le_refl _) _)) (src_en _ f V2.heap.size 1 (by rw [HECf.out]; exact heap_alloc_new V2 _)) (.inl (by simp)) (by have := HLE.out; rw [HMM.out]; simp; omega) (by have := HSZ.out; have := HB2.out.size; simp; omega) ?_; intro v9 w9 h9 hb9; (have H9 := hid h9); (have HB9 := hid hb9); clear h9 hb9)
       | fail)
      go_roundw
      case rel =>
       have hcat : Below W2.heap.size wr w9 := ((HB2.out.trans (((Below.refl V2.heap.size V2).alloc (Nat.le_refl _) _).mono HB2.out.size)).mono HSZ.out).trans HB9.out
       exact ⟨j + 1, by omega, by go_num, (by show OwnE _ _ _ _; rw [HST.out]; exact H9.out), HMB.out.keep hcat (by omega), HB.out.trans (hcat.mono (by omega)), Nat.le_trans HSZ.out hcat.size⟩
      case measure => simp [intOf]; omega
    ·have hi : ¬ (j : Int) < (n1 : Int) := by omega
     obtain rfl : j = n1 := by omega
     rw [HOA.out] at HO
     obtain ⟨A', c', hsh, hat⟩ := HO.out.ents
     have HFF := hid (HFI.out A' c' _ wr hat rfl)
     clear hat
     rw [hsh]
     generalize (allU EnV.id old fresh).length = m at HFF hsh
     go_wp2_with fail
     refine HFF.out.mono ?_
     rintro e9 w9 ⟨v9, rfl, ho9, hb9⟩
     have HO9 := hid ho9
     have HB9 := hid hb9
     clear ho9 hb9
     go_wp2_with fail
     go_ret
     exact ⟨_, rfl, HO9.out.le HB.out.size, bel_c HB.out HB9.out⟩
end Go.Proofs.YtgoiafndapemjaaGreatDoor
