import Derived.Test.YtgoiafndapemjaaGreatDoorQ22
import Derived.Test.YtgoiafndapemjaaGreatDoorQ21
import Derived.Test.YtgoiafndapemjaaGreatDoorQ17
import Derived.Test.YtgoiafndapemjaaGreatDoorQ23
import Derived.BigQuiet
import Derived.Test.YtgoiafndapemjaaGreatDoorQ16
import Derived.Lib.Builder
import Derived.Lib.UnsafeStr
import Derived.Lib.OthersKept
import Derived.Laws.Externs
import Derived.Test.YtgoiafndapemjaaGreatDoorQ19
import Derived.Test.YtgoiafndapemjaaGreatDoorQ20
import Derived.Test.YtgoiafndapemjaaGreatDoorRows
import Derived.Test.YtgoiafndapemjaaGreatDoorQ13
set_option linter.unusedVariables false
set_option linter.unusedSimpArgs false
set_option maxHeartbeats 1000000
namespace Go.Proofs.YtgoiafndapemjaaGreatDoor
open Go.RowKit Go.BigFrame Go.Shelf
attribute [local go_sem ↓] loadN_eq
attribute [local go_sem] Oper.semAt_some
def soundN (x : Nd) : Bool := soundT x.2.1 x.2.2
def lvlN (x : Nd) : Nat := if (nmT x.2.1 x.2.2).isEmpty then 0 else x.1
def cntN (x : Nd) : Nat := 1 + (lab x.2.1 x.2.2).2.1.length
theorem all_sound : ∀ (d k : Nat) (t : Tr d), (listT d k t).all soundN = mayT d t
 | 0, k, t => by
  show (soundT 0 t && true) = _
  rw [Bool.and_true]
  rfl
 | d + 1, k, t => by
  show (soundT (d + 1) t && (if t.1.1.isEmpty then [] else t.2.flatMap (listT d (k + 1))).all soundN) = mayTop t.1 t.2.isEmpty (t.2.all (mayT d) && noAdj (t.2.map fun k => (nmT d k).isEmpty))
  have hs : soundT (d + 1) t = mayTop t.1 t.2.isEmpty (noAdj (t.2.map fun k => (nmT d k).isEmpty)) := rfl
  rw [hs]
  unfold mayTop
  cases he : t.1.1.isEmpty with
  | true => simp
  | false =>
   simp only [Bool.false_eq_true, if_false]
   have hf : (t.2.flatMap (listT d (k + 1))).all soundN = t.2.all (mayT d) := by
    rw [List.all_flatMap]
    congr 1
    funext a
    exact all_sound d (k + 1) a
   rw [hf]
   cases nameX t.1.1 <;> cases t.1.2.2.isEmpty <;> cases attsOk t.1.2.1 <;> cases t.2.all (mayT d) <;> cases noAdj (t.2.map fun k => (nmT d k).isEmpty) <;> rfl
theorem maxL_app (a b : List Nat) : maxL (a ++ b) = max (maxL a) (maxL b) := by
 induction a with
 | nil => simp [maxL]
 | cons x r ih =>
  have h1 : maxL (x :: r ++ b) = max x (maxL (r ++ b)) := rfl
  have h2 : maxL (x :: r) = max x (maxL r) := rfl
  rw [h1, h2, ih]
  omega
theorem lvl_list : ∀ (d k : Nat) (t : Tr d), 1 ≤ k → maxL ((listT d k t).map lvlN) = if (nmT d t).isEmpty then 0 else k - 1 + deepT d t
 | 0, k, t, hk => by
  show max (lvlN (k, ⟨0, t⟩)) 0 = _
  unfold lvlN
  show max (if t.1.isEmpty then 0 else k) 0 = if t.1.isEmpty then 0 else k - 1 + (if t.1.isEmpty then 0 else 1)
  split <;> omega
 | d + 1, k, t, hk => by
  show max (lvlN (k, ⟨d + 1, t⟩)) (maxL ((if t.1.1.isEmpty then [] else t.2.flatMap (listT d (k + 1))).map lvlN)) = if t.1.1.isEmpty then 0 else k - 1 + (if t.1.1.isEmpty then 0 else maxL (t.2.map (deepT d)) + 1)
  have hl : lvlN (k, ⟨d + 1, t⟩) = if t.1.1.isEmpty then 0 else k := rfl
  rw [hl]
  cases he : t.1.1.isEmpty with
  | true => simp [maxL]
  | false =>
   simp only [Bool.false_eq_true, if_false]
   have key : ∀ l : List (Tr d), max k (maxL ((l.flatMap (listT d (k + 1))).map lvlN)) = k + maxL (l.map (deepT d)) := by
    intro l
    induction l with
    | nil => simp [maxL]
    | cons a r ih =>
     rw [List.flatMap_cons, List.map_append, maxL_app, lvl_list d (k + 1) a (by omega), List.map_cons]
     have h2 : maxL (deepT d a :: r.map (deepT d)) = max (deepT d a) (maxL (r.map (deepT d))) := rfl
     rw [h2]
     have h3 : (nmT d a).isEmpty = true → deepT d a = 0 := fun h => by rw [deep_eq, if_pos h]
     cases hn : (nmT d a).isEmpty with
     | true => rw [h3 hn]; simp only [if_true]; omega
     | false => simp only [Bool.false_eq_true, if_false]; omega
   rw [key]
   omega
theorem cnt_list : ∀ (d k : Nat) (t : Tr d), mayT d t = true → ((listT d k t).map cntN).sum = manyT d t
 | 0, k, t, h => by
  have hm : mayTop t true true = true := h
  show (1 + t.2.1.length) + 0 = 1 + (if t.1.isEmpty then 0 else t.2.1.length)
  cases he : t.1.isEmpty with
  | true => rw [top_atts hm he]; simp
  | false => simp
 | d + 1, k, t, h => by
  have hm : mayTop t.1 t.2.isEmpty (t.2.all (mayT d) && noAdj (t.2.map fun k => (nmT d k).isEmpty)) = true := h
  show (1 + t.1.2.1.length) + ((if t.1.1.isEmpty then [] else t.2.flatMap (listT d (k + 1))).map cntN).sum = 1 + (if t.1.1.isEmpty then 0 else t.1.2.1.length) + (t.2.map (manyT d)).sum
  cases he : t.1.1.isEmpty with
  | true =>
   have hk : t.2 = [] := by
    unfold mayTop at hm
    rw [if_pos he] at hm
    simp at hm
    exact hm.1.2
   rw [top_atts hm he, hk]
   simp
  | false =>
   simp only [Bool.false_eq_true, if_false]
   have hall : t.2.all (mayT d) = true := by
    unfold mayTop at hm
    rw [if_neg (by rw [he]; simp)] at hm
    simp only [Bool.and_eq_true] at hm
    exact hm.2.1
   have key : ∀ l : List (Tr d), l.all (mayT d) = true → ((l.flatMap (listT d (k + 1))).map cntN).sum = (l.map (manyT d)).sum := by
    intro l
    induction l with
    | nil => intro _; rfl
    | cons a r ih =>
     intro h
     rw [List.all_cons, Bool.and_eq_true] at h
     rw [List.flatMap_cons, List.map_append, List.sum_append, cnt_list d (k + 1) a h.1, ih h.2]
     rfl
   rw [key _ hall]
theorem check_list (d : Nat) (t : Tr d) (hn : (nmT d t).isEmpty = false) : checkT d t = if (listT d 1 t).all soundN then (if 16 < maxL ((listT d 1 t).map lvlN) then 9 else if 4096 < ((listT d 1 t).map cntN).sum then 3 else 0) else 1 := by
 unfold checkT
 rw [all_sound, hn]
 cases hm : mayT d t with
 | false => rfl
 | true =>
  rw [lvl_list d 1 t (Nat.le_refl _), hn, cnt_list d 1 t hm]
  simp only [Bool.false_eq_true, Bool.not_true, Bool.or_self, if_false, if_true]
  congr 1
  rw [show 1 - 1 + deepT d t = deepT d t from by omega]
theorem results_int {fn : Func} {p : Tmp} (h : fn.results = #[.cell p 31]) (tmps : Array Value) (w : World) (b : Nat) (v : Int) (hp : tmps[p]? = some (.pointer (some ⟨b, 0, none⟩))) (hc : w.cell? ⟨b, 0, none⟩ = some (.int .i64 v)) : (results fn tmps).run Tryz.prog w = .ok (.int .i64 v) w := by
 simp [results, h, hp, asAddr, loadVar, Tryz.isAgg31, hc, go_sem]
theorem heap_fold : ∀ (os : List Obj) (w : World), (os.foldl World.alloc w).heap = w.heap ++ os.toArray
 | [], w => by simp
 | o :: r, w => by
  rw [List.foldl_cons, heap_fold r]
  show w.heap.push o ++ r.toArray = _
  simp
theorem heap_nth (w : World) (os : List Obj) (k : Nat) (o : Obj) (h : os[k]? = some o) : (os.foldl World.alloc w).heap[w.heap.size + k]? = some o := by
 rw [heap_fold, Array.getElem?_append_right (by omega)]
 simpa using h
set_option maxRecDepth 100000 in
theorem check13_any (d : Nat) (t : Tr d) (cs : Array Value) (w : World) (hnd : NdAt (fun q => q < w.heap.size) d w cs t) (hN : (listT d 1 t).length ≤ 100000) (hC : ∀ x ∈ listT d 1 t, TopC x.2.1 x.2.2) (hS : ((listT d 1 t).map cntN).sum ≤ 1000000000000) : Calls Tryz.prog 24 #[.agg cs] w fun e w' => e = .returned (.int .i64 (checkT d t : Nat)) ∧ Below w.heap.size w w' := by
 obtain ⟨A, B, C, D, rfl, o1, o2, o3, o4⟩ := nd_four hnd
 have hA : A = .string (asS (nmT d t)) := by
  obtain ⟨aA, ac, kA, kc, hcs, _, _⟩ := hnd.parts
  have := congrArg (fun y : Array Value => y.getD 0 undef) hcs
  simpa [ndcs, nmT] using this
 subst hA
 have z1 : (asS (nmT d t)).toList.isEmpty = (nmT d t).isEmpty := by rw [emp8]; cases nmT d t <;> simp
 have HWI := hid (within13_any d #[.string (asS (nmT d t)), B, C, D] ⟨_, _, _, _, rfl, o1, o2, o3, o4⟩)
 refine callsIn_wide.1 (callsIn_of_wp_marks (n := 5) Tryz.func24 rfl trivial ?_)
 simp only [Tryz.ntmps24, List.size_toArray, List.length_cons, List.length_nil, Nat.reduceAdd, Nat.reduceSub, Array.replicate_succ, Array.replicate_zero, List.push_toArray, List.append_toArray, List.nil_append, List.cons_append]
 refine wpIn_wide.2 ?_
 cases hne : (nmT d t).isEmpty with
 | true =>
  rw [hne] at z1
  have HV : Hid (checkT d t = 1) := by show _ = _; unfold checkT; rw [hne]; rfl
  generalize checkT d t = V at HV ⊢
  generalize asS (nmT d t) = NM at *
  clear HWI hN hC hS hnd
  go_wp2_with fail
  refine ⟨_, results_int (p := 2) Tryz.results24 _ _ (w.heap.size + 1) 1 rfl (cell_of_row _ _ _ _ _ _ (heap_second w _ _)), by rw [HV.out]; rfl, ?_⟩
  exact ((Below.refl _ _).alloc (Nat.le_refl _) _).alloc (by simp) _
 | false =>
  rw [hne] at z1
  have HCL := hid (check_list d t hne)
  generalize checkT d t = V at HCL ⊢
  have hldb := loadN_run (w := (((w.alloc (.cells #[.string (asS (nmT d t)), B, C, D] 25)).alloc (.cells #[.int .i64 0] 31)).alloc (.cells #[.int .i64 0] 3)).alloc (.cells #[.int .i64 0] 3)) (g := w.heap.size) (cs := #[.string (asS (nmT d t)), B, C, D]) (fr := (0, 0)) ?hrow0 rfl
  case hrow0 =>
   refine row_keep (V := (w.alloc (.cells #[.string (asS (nmT d t)), B, C, D] 25)).alloc (.cells #[.int .i64 0] 31)) ?_ (heap_first w _ _)
   exact ((Below.refl _ _).alloc (Nat.le_refl _) _).alloc (by simp) _
  obtain ⟨Wl, hWl⟩ : ∃ Wl, ((((w.alloc (.cells #[.string (asS (nmT d t)), B, C, D] 25)).alloc (.cells #[.int .i64 0] 31)).alloc (.cells #[.int .i64 0] 3)).alloc (.cells #[.int .i64 0] 3)).alloc (.cells #[.string (asS (nmT d t)), B, C, D] 25) = Wl := ⟨_, rfl⟩
  have HSL : Hid (Wl.heap.size = w.heap.size + 5) := by show _ = _; rw [← hWl]; simp
  have HBL : Hid (Below w.heap.size w Wl) := by show Below _ _ _; rw [← hWl]; exact (((((Below.refl _ w).alloc (Nat.le_refl _) _).alloc (by simp) _).alloc (by simp <;> omega) _).alloc (by simp <;> omega) _).alloc (by simp <;> omega) _
  have hat : ∀ k o, [Obj.cells #[.string (asS (nmT d t)), B, C, D] 25, Obj.cells #[.int .i64 0] 31, Obj.cells #[.int .i64 0] 3, Obj.cells #[.int .i64 0] 3, Obj.cells #[.string (asS (nmT d t)), B, C, D] 25][k]? = some o → Wl.heap[w.heap.size + k]? = some o := fun k o h => by
   rw [← hWl]
   exact heap_nth w _ k o h
  have HR1 : Hid (Wl.heap[w.heap.size + 1]? = some (.cells #[.int .i64 0] 31 (0, 0))) := hat 1 _ rfl
  have HR2 : Hid (Wl.heap[w.heap.size + 2]? = some (.cells #[.int .i64 0] 3 (0, 0))) := hat 2 _ rfl
  have HR3 : Hid (Wl.heap[w.heap.size + 3]? = some (.cells #[.int .i64 0] 3 (0, 0))) := hat 3 _ rfl
  have HRB : Hid (Wl.heap[w.heap.size + 4]? = some (.cells #[.string (asS (nmT d t)), B, C, D] 25 (0, 0))) := hat 4 _ rfl
  have HGV := hid (within1_gives d t 4 (w.heap.size + 4) w.heap.size #[.string (asS (nmT d t)), B, C, D] Wl (hnd.below HBL.out (Nat.le_refl _)) HRB.out HBL.out.size hN)
  have HCC := hid hC
  have HSS := hid hS
  clear hnd hN hC hS hat
  generalize listT d 1 t = tot at HGV HCL HCC HSS
  generalize asS (nmT d t) = NM at *
  go_wp2_with fail
  refine (HWI.out _).mono ?_
  rintro e W0 ⟨rfl, rfl⟩
  go_wp2_with fail
  clear hldb hWl
  refine (wpIn_wide (n := 5)).1 ?_
  refine range_law (e := 23) (e2 := 5) (n0 := w.heap.size) (xs := tot) (enc := encN w.heap.size Wl) rfl (by decide) (gf := 87) (lb := #[.pointer (some ⟨w.heap.size + 4, 0, none⟩)]) rfl trivial (enters_of Tryz.func87 (by kernel_rfl) rfl) HGV.out HBL.out.size ?hps
   (fun pre W => W.heap[w.heap.size + 1]? = some (.cells #[.int .i64 0] 31 (0, 0)) ∧ W.heap[w.heap.size + 2]? = some (.cells #[.int .i64 ((pre.map cntN).sum : Nat)] 3 (0, 0)) ∧ W.heap[w.heap.size + 3]? = some (.cells #[.int .i64 (maxL (pre.map lvlN) : Nat)] 3 (0, 0)) ∧ Below w.heap.size w W ∧ pre.all soundN = true)
   (fun pre W => W.heap[w.heap.size + 1]? = some (.cells #[.int .i64 1] 31 (0, 0)) ∧ Below w.heap.size w W ∧ pre.all soundN = false) ?hI ?hIx ⟨HR1.out, HR2.out, HR3.out, HBL.out, rfl⟩
   (fun vs W => ({ tmps := #[.agg #[.string NM, B, C, D], .pointer (some ⟨w.heap.size, 0, none⟩), .pointer (some ⟨w.heap.size + 1, 0, none⟩), .pointer (some ⟨w.heap.size + 1 + 1, 0, none⟩), .pointer (some ⟨w.heap.size + 1 + 1 + 1, 0, none⟩), vs.getD 0 undef, .pointer (some ⟨W.heap.size, 0, none⟩), .pointer (some ⟨w.heap.size, 0, none⟩), .string NM, .bool false, .agg #[.string NM, B, C, D], .func (.func 87) #[] #[.pointer (some ⟨w.heap.size + 1 + 1 + 1 + 1, 0, none⟩)], vs.getD 0 undef, vs.getD 1 undef, undef, undef, undef, undef, undef, undef, undef, undef, undef, undef, undef, undef, undef, undef, undef, undef, undef, undef, undef, undef, undef], defers := [] }, W.alloc (.cells (aggOf (vs.getD 1 undef)) 25))) (fun vs W => (Below.refl _ W).alloc (Nat.le_refl _) _) ?assign ?body ?done ?stop
  case hps =>
   rintro x vs ⟨cs', rfl, _⟩
   rfl
  case hI =>
   rintro pre A' C' ⟨h1, h2, h3, h4, h5⟩ ht
   have hz := HSL.out
   exact ⟨(ht.low.block _ (by omega)).trans h1, (ht.low.block _ (by omega)).trans h2, (ht.low.block _ (by omega)).trans h3, h4.trans (ht.low.mono HBL.out.size), h5⟩
  case hIx =>
   rintro pre A' C' ⟨h1, h4, h5⟩ ht
   have hz := HSL.out
   exact ⟨(ht.low.block _ (by omega)).trans h1, h4.trans (ht.low.mono HBL.out.size), h5⟩
  case assign =>
   rintro l x vs W K ⟨cs', rfl, hnd'⟩ hK
   obtain ⟨aA, ac, kA, kc, rfl, _⟩ := hnd'.parts
   unfold ndcs at hK ⊢
   gi_wp2
   exact hK
  case body =>
   rintro l pre x vs W V ⟨h1, h2, h3, hbl, hall⟩ hsz hV hVs hpre ⟨cs', rfl, hnd'⟩
   obtain ⟨aA, ac, kA, kc, hcs, _⟩ := hnd'.parts
   have hz := HSL.out
   have hVW : W.heap.size < V.heap.size := by
    rw [hVs]
    show W.heap.size < (W.heap.push _).size
    simp
   have hndV : NdAt (fun q => q < w.heap.size) x.2.1 V cs' x.2.2 := hnd'.frame (by omega) fun q hq hl => ⟨(hbl.block q hq).trans (HBL.out.block q hq).symm, hq⟩
   have HSO := hid (isSound_any _ x.2.1 x.2.2 (HCC.out x (hpre.subset (by simp))) cs' V hndV)
   have hsx : soundT x.2.1 x.2.2 = soundN x := rfl
   rw [hsx] at HSO
   have hrow : V.heap[W.heap.size]? = some (.cells cs' 25 (0, 0)) := by
    rw [hV _ (by omega)]
    exact heap_alloc_new W _
   have HALL : Hid ((pre ++ [x]).all soundN = soundN x) := by show _ = _; rw [List.all_append, hall]; simp
   have HCN : Hid (((pre ++ [x]).map cntN).sum = (pre.map cntN).sum + (1 + (lab x.2.1 x.2.2).2.1.length)) := by show _ = _; simp [cntN]
   have HLV : Hid (maxL ((pre ++ [x]).map lvlN) = max (maxL (pre.map lvlN)) (if (lab x.2.1 x.2.2).1.isEmpty then 0 else x.1)) := by
    show _ = _
    rw [List.map_append, maxL_app]
    show max _ (max (lvlN x) 0) = _
    have : lvlN x = if (lab x.2.1 x.2.2).1.isEmpty then 0 else x.1 := rfl
    rw [this]
    omega
   have HLE : Hid ((pre.map cntN).sum + (1 + (lab x.2.1 x.2.2).2.1.length) ≤ 1000000000000) := by
    obtain ⟨r, hr⟩ := hpre
    have h9 := HSS.out
    rw [← hr, List.map_append, List.sum_append, HCN.out] at h9
    show _ ≤ _
    omega
   have z9 : (asS (lab x.2.1 x.2.2).1).toList.isEmpty = (lab x.2.1 x.2.2).1.isEmpty := by rw [emp8]; cases (lab x.2.1 x.2.2).1 <;> simp
   have HBLV := hid hbl
   have HV1 := hid h1
   have HV2 := hid h2
   have HV3 := hid h3
   have HGW : Hid (w.heap.size + 7 ≤ W.heap.size ∧ W.heap.size < V.heap.size) := ⟨by omega, hVW⟩
   clear hV hVs hpre hnd' hndV hbl h1 h2 h3 hall hsx
   rw [hcs] at HSO hrow
   unfold ndcs at HSO hrow
   have hldo := loadN_run hrow rfl
   have HROW := hid hrow
   clear hrow hcs
   generalize hlv : x.1 = lv at *
   clear hlv
   generalize (lab x.2.1 x.2.2).1.isEmpty = be at z9 HLV
   generalize asS (lab x.2.1 x.2.2).1 = NX at *
   generalize asS (lab x.2.1 x.2.2).2.2 = TX at *
   generalize (lab x.2.1 x.2.2).2.1.length = an at *
   generalize (pre.map cntN).sum = S at *
   generalize maxL (pre.map lvlN) = M at *
   generalize soundN x = bs at *
   generalize hGn : W.heap.size = G at *
   clear hGn hsz hz hVW
   cases bs
   ·gi_wp2_with (refine ⟨trivial, ?_⟩; gi_at_call 53; refine (CallsIn.inRound l (callsIn_wide.2 HSO.out)).mono ?_; rintro e W2 ⟨rfl, hb2⟩; have kc1 : W2.cell? ⟨w.heap.size + 1, 0, none⟩ = some (.int .i64 0) := cell_of_row _ _ _ _ _ _ (row_keep hb2 HV1.out); have kf1 : W2.frozen? ⟨w.heap.size + 1, 0, none⟩ = false := free_row (row_keep hb2 HV1.out))
    have hsc := setCell_row (j := 0) (.int .i64 1) (row_keep hb2 HV1.out)
    refine ⟨(Keeps.of_below hb2 (by have := HGW.out; omega)).trans (Keeps.of_only hsc.1 (by omega) (by have := HSL.out; omega)), hsc.2, (HBLV.out.trans (hb2.mono (by have := HGW.out; omega))).trans (hsc.1.below (by omega)), HALL.out⟩
   ·cases be
    ·gi_wp2_with (refine ⟨trivial, ?_⟩; gi_at_call 53; refine (CallsIn.inRound l (callsIn_wide.2 HSO.out)).mono ?_; rintro e W2 ⟨rfl, hb2⟩; have kc2 : W2.cell? ⟨w.heap.size + 1 + 1, 0, none⟩ = some (.int .i64 (S : Nat)) := cell_of_row _ _ _ _ _ _ (row_keep hb2 HV2.out); have kf2 : W2.frozen? ⟨w.heap.size + 1 + 1, 0, none⟩ = false := free_row (row_keep hb2 HV2.out); have kc3 : W2.cell? ⟨w.heap.size + 1 + 1 + 1, 0, none⟩ = some (.int .i64 (M : Nat)) := cell_of_row _ _ _ _ _ _ (row_keep hb2 HV3.out); have kf3 : W2.frozen? ⟨w.heap.size + 1 + 1 + 1, 0, none⟩ = false := free_row (row_keep hb2 HV3.out); have kg0 : W2.cell? ⟨G, 0, none⟩ = some (.string NX) := cell_of_row _ _ _ _ _ _ (row_keep hb2 HROW.out); have kg1 : W2.cell? ⟨G, 1, none⟩ = some (.slice aA an ac) := cell_of_row _ _ _ _ _ _ (row_keep hb2 HROW.out); have hle := HLE.out; have hg1 : ¬ G = w.heap.size + 1 + 1 := (by have := HGW.out.1; omega); have hg2 : ¬ w.heap.size + 1 + 1 = G := (by have := HGW.out.1; omega))
     have hs2 := setCell_row (j := 0) (.int .i64 ((S : Int) + (1 + (an : Int)))) (row_keep hb2 HV2.out)
     have hs3 := setCell_row (j := 0) (.int .i64 (max (M : Int) (lv : Int))) ((hs2.1.block (w.heap.size + 3) (by omega)).trans (row_keep hb2 HV3.out))
     have b2 := HBLV.out.trans (hb2.mono HBLV.out.size)
     refine ⟨((Keeps.of_below hb2 (by have := HGW.out; omega)).trans (Keeps.of_only hs2.1 (by omega) (by have := HSL.out; omega))).trans (Keeps.of_only hs3.1 (by omega) (by have := HSL.out; omega)), (hs3.1.block _ (by omega)).trans ((hs2.1.block _ (by omega)).trans (row_keep hb2 HV1.out)), ?_, ?_, (b2.trans (hs2.1.below (by omega))).trans (hs3.1.below (by omega)), HALL.out⟩
     ·rw [HCN.out, show ((S + (1 + an) : Nat) : Int) = (S : Int) + (1 + (an : Int)) from by omega]
      exact (hs3.1.block _ (by omega)).trans hs2.2
     ·rw [HLV.out]
      simp only [Bool.false_eq_true, if_false]
      rw [show ((max M lv : Nat) : Int) = max (M : Int) (lv : Int) from by omega]
      exact hs3.2
    ·gi_wp2_with (refine ⟨trivial, ?_⟩; gi_at_call 53; refine (CallsIn.inRound l (callsIn_wide.2 HSO.out)).mono ?_; rintro e W2 ⟨rfl, hb2⟩; have kc2 : W2.cell? ⟨w.heap.size + 1 + 1, 0, none⟩ = some (.int .i64 (S : Nat)) := cell_of_row _ _ _ _ _ _ (row_keep hb2 HV2.out); have kf2 : W2.frozen? ⟨w.heap.size + 1 + 1, 0, none⟩ = false := free_row (row_keep hb2 HV2.out); have kc3 : W2.cell? ⟨w.heap.size + 1 + 1 + 1, 0, none⟩ = some (.int .i64 (M : Nat)) := cell_of_row _ _ _ _ _ _ (row_keep hb2 HV3.out); have kf3 : W2.frozen? ⟨w.heap.size + 1 + 1 + 1, 0, none⟩ = false := free_row (row_keep hb2 HV3.out); have kg0 : W2.cell? ⟨G, 0, none⟩ = some (.string NX) := cell_of_row _ _ _ _ _ _ (row_keep hb2 HROW.out); have kg1 : W2.cell? ⟨G, 1, none⟩ = some (.slice aA an ac) := cell_of_row _ _ _ _ _ _ (row_keep hb2 HROW.out); have hle := HLE.out; have hg1 : ¬ G = w.heap.size + 1 + 1 := (by have := HGW.out.1; omega); have hg2 : ¬ w.heap.size + 1 + 1 = G := (by have := HGW.out.1; omega))
     have hs2 := setCell_row (j := 0) (.int .i64 ((S : Int) + (1 + (an : Int)))) (row_keep hb2 HV2.out)
     have b2 := HBLV.out.trans (hb2.mono HBLV.out.size)
     refine ⟨(Keeps.of_below hb2 (by have := HGW.out; omega)).trans (Keeps.of_only hs2.1 (by omega) (by have := HSL.out; omega)), (hs2.1.block _ (by omega)).trans (row_keep hb2 HV1.out), ?_, ?_, b2.trans (hs2.1.below (by omega)), HALL.out⟩
     ·rw [HCN.out, show ((S + (1 + an) : Nat) : Int) = (S : Int) + (1 + (an : Int)) from by omega]
      exact hs2.2
     ·rw [HLV.out]
      simp only [if_true]
      rw [show max M 0 = M from by omega]
      exact (hs2.1.block _ (by omega)).trans (row_keep hb2 HV3.out)
  case done =>
   rintro D' W hD ⟨h1, h2, h3, hbl, hall⟩ hK
   rw [hall] at HCL
   simp only [if_true] at HCL
   have hz := HSL.out
   have kc1 : W.cell? ⟨w.heap.size + 1, 0, none⟩ = some (.int .i64 0) := cell_of_row _ _ _ _ _ _ h1
   have kf1 : W.frozen? ⟨w.heap.size + 1, 0, none⟩ = false := free_row h1
   have kc2 : W.cell? ⟨w.heap.size + 1 + 1, 0, none⟩ = some (.int .i64 ((tot.map cntN).sum : Nat)) := cell_of_row _ _ _ _ _ _ h2
   have kc3 : W.cell? ⟨w.heap.size + 1 + 1 + 1, 0, none⟩ = some (.int .i64 (maxL (tot.map lvlN) : Nat)) := cell_of_row _ _ _ _ _ _ h3
   have fin : ∀ e : Nat, V = e → ∀ tmps : Array Value, tmps[2]? = some (.pointer (some ⟨w.heap.size + 1, 0, none⟩)) → bodyPostM Fence.wide 5 Tryz.prog Tryz.f24 (fun x w' => x = .returned (.int .i64 (V : Nat)) ∧ Below w.heap.size w w') Exit.ret { tmps := tmps, defers := [{ target := .collected D', args := #[] }] } (W.setCell ⟨w.heap.size + 1, 0, none⟩ (.int .i64 (e : Int))) := fun e hV tmps ht => by
    have hsc := setCell_row (j := 0) (.int .i64 (e : Int)) h1
    have hK2 := (hsc.1.block D' (by omega)).trans hK
    refine ⟨by simp, .inl ⟨_, _, rfl, run_takeDeferred hK2, ?_⟩⟩
    refine ⟨_, results_int (p := 2) Tryz.results24 _ _ (w.heap.size + 1) (e : Int) ht ?_, by rw [hV], (hbl.trans (hsc.1.below (by omega))).trans (put_low (by omega))⟩
    exact cell_of_row _ _ _ _ _ _ ((World.putObj_heap_other (by omega)).trans hsc.2)
   generalize (tot.map cntN).sum = S at *
   generalize maxL (tot.map lvlN) = M at *
   have HFIN := hid fin
   clear h1 h2 h3 hbl hall hK hD fin
   by_cases hm : 16 < M
   ·rw [if_pos hm] at HCL
    have hm' : (16 : Int) < (M : Int) := by omega
    clear hm
    gi_wp2
    go_wp2_with fail
    exact HFIN.out 9 HCL.out _ rfl
   ·rw [if_neg hm] at HCL
    have hm' : ¬ (16 : Int) < (M : Int) := by omega
    clear hm
    by_cases hs : 4096 < S
    ·rw [if_pos hs] at HCL
     have hs' : (4096 : Int) < (S : Int) := by omega
     clear hs
     gi_wp2
     go_wp2_with fail
     exact HFIN.out 3 HCL.out _ rfl
    ·rw [if_neg hs] at HCL
     have hs' : ¬ (4096 : Int) < (S : Int) := by omega
     clear hs
     gi_wp2
     go_wp2_with fail
     exact HFIN.out 0 HCL.out _ rfl
  case stop =>
   rintro D' pre W hD hpre ⟨h1, hbl, hall⟩ hK
   have hz := HSL.out
   have hV : V = 1 := by
    rw [HCL.out, if_neg]
    intro h
    obtain ⟨r, hr⟩ := hpre
    rw [← hr, List.all_append, hall] at h
    cases h
   gi_wp2
   refine ⟨by simp, .inl ⟨_, _, rfl, run_takeDeferred hK, ?_⟩⟩
   refine ⟨_, results_int (p := 2) Tryz.results24 _ _ (w.heap.size + 1) 1 rfl ?_, by rw [hV]; rfl, hbl.trans (put_low (by omega))⟩
   exact cell_of_row _ _ _ _ _ _ ((World.putObj_heap_other (by omega)).trans h1)
end Go.Proofs.YtgoiafndapemjaaGreatDoor
namespace Go.Proofs.YtgoiafndapemjaaGreatDoor
open Go.RowKit Go.BigFrame
attribute [local go_sem ↓] loadN_eq
theorem many_wt : ∀ (d : Nat) (t : Tr d), manyT d t ≤ wtT d t := by
 have step : ∀ (d : Nat) (t : Tr d), ((kidsT d t).map (manyT (d - 1))).sum ≤ ((kidsT d t).map (wtT (d - 1))).sum → manyT d t ≤ wtT d t := by
  intro d t h
  rw [many_eq, wt_eq]
  have := attW_len (lab d t).2.1
  split <;> omega
 intro d
 induction d with
 | zero => intro t; exact step 0 t (Nat.le_refl _)
 | succ d ih =>
  intro t
  refine step (d + 1) t ?_
  show ((kidsT (d + 1) t).map (manyT d)).sum ≤ ((kidsT (d + 1) t).map (wtT d)).sum
  generalize kidsT (d + 1) t = l
  induction l with
  | nil => exact Nat.le_refl _
  | cons a r ih2 =>
   have := ih a
   simp only [List.map_cons, List.sum_cons]
   omega
theorem fit_kids (N : Nat) : ∀ (d : Nat) (t : Tr d), FitN N d t → KidsFit N d t
 | 0, t, _ => trivial
 | d + 1, t, h => ⟨h.2.1, fun k hk => fit_kids N d k (h.2.2 k hk)⟩
theorem cnt_sum (l : List Nd) (N : Nat) (h : ∀ x ∈ l, cntN x ≤ N) : (l.map cntN).sum ≤ l.length * N := by
 induction l with
 | nil => simp
 | cons a r ih =>
  have h1 := h a (by simp)
  have h2 := ih (fun x hx => h x (by simp [hx]))
  rw [List.map_cons, List.sum_cons, List.length_cons, Nat.add_mul]
  omega
theorem wt_print {d : Nat} {t : Tr d} (h : wtT d t ≤ 12000) : (listT d 1 t).length ≤ 100000 ∧ (∀ x ∈ listT d 1 t, TopC x.2.1 x.2.2) ∧ ((listT d 1 t).map cntN).sum ≤ 1000000000000 ∧ FitN 1000000 d t ∧ LeT 65536 d t ∧ KidsFit 1000000 d t ∧ manyT d t ≤ 12000 := by
 obtain ⟨h1, h2⟩ := list_wt 12000 d 1 t h
 have hf := wt_fit d t 1000000 (by omega)
 have hl := wt_fit d t 65536 (by omega)
 have hm := many_wt d t
 refine ⟨by omega, fun x hx => ?_, ?_, hf.1, hl.2, fit_kids _ d t hf.1, by omega⟩
 ·obtain ⟨a, b, c, e, f, _⟩ := wt_parts (h1 x hx)
  exact ⟨by omega, by omega, fun y hy => by have := (e y hy).1; omega, by omega⟩
 ·have hc := cnt_sum (listT d 1 t) 12001 (fun x hx => by
   have := (wt_parts (h1 x hx)).2.2.1
   unfold cntN
   omega)
  have : (listT d 1 t).length * 12001 ≤ 12000 * 12001 := Nat.mul_le_mul_right _ (by omega)
  omega
end Go.Proofs.YtgoiafndapemjaaGreatDoor
