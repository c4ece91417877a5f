import Derived.Test.YtgoiafndapemjaaGreatDoorQ37
import Derived.Test.YtgoiafndapemjaaGreatDoorQ35
import Derived.Test.YtgoiafndapemjaaGreatDoorQ23
set_option linter.unusedVariables false
set_option linter.unusedSimpArgs false
set_option maxHeartbeats 1000000
namespace Go.Proofs.YtgoiafndapemjaaGreatDoor
open Go.RowKit Go.BigFrame
attribute [local go_sem ↓] loadN_eq
theorem sum_len (d : Nat) : ∀ l : List (Tr d), l.length ≤ sumN d l
 | [] => Nat.le_refl _
 | t :: l => by
  have h1 := sum_len d l
  have h2 := szN_pos d t
  show l.length + 1 ≤ szN d t + sumN d l
  omega
set_option maxHeartbeats 2000000 in
set_option maxRecDepth 100000 in
theorem renew_any (n0 D g0 c0 : Nat) (L : List (Tr D)) (w : World) (hn0 : n0 ≤ w.heap.size) (hrow : RowO n0 w D g0 c0 L) (hpos : 0 < L.length) (hlt : ∀ t ∈ L, wtT D t ≤ 12000) (hsz : szR D L ≤ 1000000) : Calls Tryz.prog 54 #[.slice (some ⟨g0, 0, none⟩) L.length c0] w fun e w' => (∃ v, e = .returned v) ∧ NdsAt (fun _ => True) D w' (some ⟨g0, 0, none⟩) L ∧ Below n0 w w' := by
 have HR := hid (fun d t hw cs W h1 h2 => renewed_any n0 d t hw cs W h1 h2)
 obtain ⟨mu, hmu⟩ := least_of (fun (m : Nat) (a : Nat × Nat × Nat) (wr : World) => ∃ ps Bs, a.2.1 = ps.length ∧ OutN n0 D g0 L w m Bs a.1 a.2.2 ps wr)
 have HMU := hid hmu
 clear hmu
 obtain ⟨W0, hW0⟩ : ∃ W0, w.alloc (.cells #[.slice (some ⟨g0, 0, none⟩) L.length c0] 23) = W0 := ⟨_, rfl⟩
 have hb0 : Below w.heap.size w W0 := by rw [← hW0]; exact (Below.refl _ _).alloc (Nat.le_refl _) _
 have HOUT : Hid (OutN n0 D g0 L w (szQ [⟨D, g0, c0, L⟩]) [w.heap.size] w.heap.size 1 [⟨D, g0, c0, L⟩] W0) := by
  have hl := hrow.lt
  have hnw : W0.heap[w.heap.size]? = some (.cells #[.slice (some ⟨g0, 0, none⟩) L.length c0] 23 (0, 0)) := by rw [← hW0]; exact heap_alloc_new w _
  have hsz0 : w.heap.size < W0.heap.size := by rw [← hW0]; simp
  refine ⟨OwnV.of_row (xs := [.slice (some ⟨g0, 0, none⟩) L.length c0]) hn0 hnw, by simp, ?_, fun p hp => ?_, by simp, fun b hb => ?_, fun p hp => ?_, rfl, hb0.mono hn0⟩
  ·intro W _ _ h3
   exact h3 ⟨D, g0, c0, L⟩ (by simp)
  ·rw [List.mem_singleton.1 hp]
   exact ⟨hrow.below hb0, hpos⟩
  ·rw [List.mem_singleton.1 hb]
   refine ⟨hn0, hsz0, fun hm => ?_⟩
   have e : w.heap.size = g0 := List.mem_singleton.1 hm
   omega
  ·rw [List.mem_singleton.1 hp]; exact hlt
 have hM : szQ [(⟨D, g0, c0, L⟩ : Pn)] ≤ 1000000 := hsz
 have HM := hid hM
 clear hrow hlt hM hsz hb0
 go_enter Tryz.func54, Tryz.ntmps54
 go_wp2_with fail
 clear hW0
 go_loopw [2] (fun v wr => ∃ (ps : List Pn) (Bs : List Nat) (B cap : Nat), v = .slice (some ⟨B, 0, none⟩) ps.length cap ∧ szQ ps ≤ 1000000 ∧ Hid (OutN n0 D g0 L w (szQ ps) Bs B cap ps wr)) (fun v wr => mu (tri v) wr)
 case atStart => exact ⟨_, _, _, _, rfl, HM.out, HOUT⟩
 case round =>
  obtain ⟨ps0, Bs0, B, cap, rfl, hfew0, HO0⟩ := hrel
  obtain ⟨⟨ps, Bs, hlen, hout⟩, hle⟩ := HMU.out _ (B, ps0.length, cap) wr ⟨ps0, Bs0, rfl, HO0.out⟩
  change ps0.length = ps.length at hlen
  have HMM : Hid (szQ ps = mu (B, ps0.length, cap) wr) := hout.few
  rw [← HMM.out] at hout
  change OutN n0 D g0 L w (szQ ps) Bs B cap ps wr at hout
  have hfew : szQ ps ≤ 1000000 := by have := HMM.out; omega
  rw [hlen]
  rw [hlen] at HMM
  have HOU := hid hout
  clear hlen hle hout hfew0 HO0
  rcases List.eq_nil_or_concat ps with hps | ⟨qs, p, hps⟩
  ·subst hps
   have HF : Hid (NdsAt (fun _ => True) D wr (some ⟨g0, 0, none⟩) L) := HOU.out.root wr (Nat.le_refl _) (fun _ _ _ => rfl) (fun p hp => by cases hp)
   have HL := hid HOU.out.low
   clear HMM hfew
   go_wp2_with fail
   exact ⟨by simp, _, results_none rfl _ _ _, ⟨⟨_, rfl⟩, HF.out, HL.out⟩⟩
  ·obtain ⟨d, g, c, l⟩ := p
   rw [List.concat_eq_append] at hps
   subst hps
   have HIN := hid HOU.out.take
   have cB : wr.cell? ⟨B, qs.length, none⟩ = some (.slice (some ⟨g, 0, none⟩) l.length c) := by
    have ho := HOU.out.own
    rw [List.map_append] at ho
    exact ho.at qs.length _ (by rw [List.getElem?_append_right (by simp)]; simp [Pn.val])
   have hcap : qs.length + 1 ≤ cap := by
    have := HOU.out.own.le
    rw [List.length_append] at this
    exact this
   have HLT : Hid (∀ t ∈ l, wtT d t ≤ 12000) := HOU.out.light ⟨d, g, c, l⟩ (by simp)
   have hlp : 0 < l.length := (HOU.out.rows ⟨d, g, c, l⟩ (by simp)).2
   have HME : Hid (szQ (qs ++ [⟨d, g, c, l⟩]) = mu (B, qs.length + 1, cap) wr) := by
    have := HMM.out
    rw [List.length_append] at this
    exact this
   have hql : qs.length ≤ 1000000 := by
    have := szQ_len qs
    rw [szQ_app] at hfew
    omega
   have hll : l.length ≤ 1000000 := by
    rw [szQ_app, szQ_one, szR_eq] at hfew
    have h2 := sum_len d l
    have e : szQ qs + (1 + sumN d l) ≤ 1000000 := hfew
    omega
   have HFW := hid hfew
   have e1 : (qs ++ [(⟨d, g, c, l⟩ : Pn)]).length = qs.length + 1 := by simp
   rw [e1]
   obtain ⟨M, hMM⟩ : ∃ M, szQ (qs ++ [(⟨d, g, c, l⟩ : Pn)]) = M := ⟨_, rfl⟩
   rw [hMM] at HIN HME HFW
   have HLOW := hid HIN.out.low
   clear HMM HOU hfew e1 hMM
   generalize hnq : qs.length = n at cB hcap hql HME ⊢
   have HNQ := hid hnq
   clear hnq
   have f1 : ((n + 1 : Nat) : Int) - 1 = (n : Int) := by omega
   have f2 : (n : Int) + 1 - 1 = (n : Int) := by omega
   go_wp2_with fail
   go_loopw [2, 23] (fun v i wx => ∃ (k : Nat) (rs : List Pn) (Bs' : List Nat) (B' cap' : Nat), k ≤ l.length ∧ i = .int .i64 (k : Int) ∧ v = .slice (some ⟨B', 0, none⟩) rs.length cap' ∧ Hid (InN n0 D g0 L w M d g c l Bs' B' cap' k rs wx)) (fun v i wx => l.length - (intOf i).toNat)
   case atStart => exact ⟨0, qs, Bs, B, cap, Nat.zero_le _, rfl, by rw [HNQ.out], HIN⟩
   case round =>
    obtain ⟨V, hV⟩ : ∃ V, V = wr := ⟨_, rfl⟩
    subst hV
    obtain ⟨k, rs, Bs', B', cap', hk, rfl, rfl, HI⟩ := hrel
    by_cases hlt : k < l.length
    ·have hi : (k : Int) < (l.length : Int) := by omega
     obtain ⟨a, b, x, e, k1, k2, k3, k4, hnd⟩ := HI.out.mid.load hlt
     have hld := loadN_mid k1 k2 k3 k4
     obtain ⟨t, hT⟩ : ∃ t, l.getD k (zeroT d) = t := ⟨_, rfl⟩
     rw [hT] at hnd
     have hmt : t ∈ l := by rw [← hT]; exact getD_mem9 hlt
     have hwt := HLT.out t hmt
     have hn1 : n0 ≤ V.heap.size := Nat.le_trans hn0 HI.out.low.size
     have HRC := hid (HR.out d t hwt #[a, b, x, e] V hn1 hnd)
     have HKW : Hid (∀ t' ∈ kidsT d t, wtT (d - 1) t' ≤ 12000) := (wt_parts hwt).2.2.2.2.2
     have HT := hid hT
     have HN1 := hid hn1
     obtain ⟨rc, hrc⟩ : ∃ rc, V.heap[g]? = some (.cells rc 25 (0, 0)) := by
      obtain ⟨css, _, c2, _⟩ := HI.out.mid.row
      obtain ⟨rest, r1, _⟩ := c2.row
      exact ⟨_, r1⟩
     have hrz : l.length * 4 ≤ rc.size := by
      obtain ⟨css, c1, c2, c3, _⟩ := HI.out.mid.row
      obtain ⟨rest, r1, _⟩ := c2.row
      rw [hrc] at r1
      injection r1 with r1
      injection r1 with r1
      rw [r1, List.size_toArray, List.length_append, ndvs_len css c3, c1]
      omega
     have HRO := hid hrc
     have hcc : l.length ≤ c := by
      obtain ⟨css, _, c2, _⟩ := HI.out.mid.row
      exact c2.le
     have hrl := szQ_len rs
     have hrf := HI.out.few
     have hrm := HFW.out
     have hrs : rs.length ≤ 1000000 := by omega
     clear k1 k2 k3 k4 hnd hmt hwt hn1 hT hrc hrl hrf hrm
     go_wp2_with fail
     refine HRC.out.mono ?_
     rintro e9 w1 ⟨hb1, v1, kv, rfl, hH, hK⟩
     obtain ⟨vA, vc, hvs⟩ := hH.slice
     have hko : kv.oneCell' = true := by
      rcases hK with ⟨_, h⟩ | ⟨gK, cK, h, _⟩ <;> (rw [h]; rfl)
     have hvo : v1.oneCell' = true := by rw [hvs]; rfl
     have hrow1 := (hb1.block g (Array.getElem?_eq_some_iff.1 HRO.out).1).trans HRO.out
     have HONE : Hid ((#[.string (asS (nmT d t)), v1, .string (asS (txT d t)), kv] : Array Value).all (·.oneCell') = true) := msg_one _ _ _ _ rfl hvo rfl hko
     have HH := hid hH
     have HKO := hid hK
     have HB1 := hid hb1
     have HRW := hid hrow1
     have hz4 : k * 4 + 4 ≤ rc.size := by omega
     clear hvs hko hvo hrow1 hH hK hb1
     go_upto_region 9 with (first
      | (refine wpList_store_abs rfl 25 (.tmp 33) (.tmp 32) rfl g (k * 4) #[.string (asS (nmT d t)), v1, .string (asS (txT d t)), kv] rfl rfl 25 rc HRW.out hz4 infoN HONE.out ?_; intro W2 hO2 hW2)
      | fail)
     obtain ⟨hcell, hcase⟩ := HI.out.mid.renew hlt HT.out HN1.out (fun b hb => (HI.out.sep b hb).2.1) HB1.out HH.out HKO.out hO2 (fun rc' h' => by rw [HRW.out] at h'; cases h'; exact hW2)
     have HO2 := hid hO2
     clear hW2 hO2 HKO HH HONE
     rcases hcase with ⟨⟨h0, rfl⟩, hmid⟩ | ⟨gK, cK, rfl, hp, hge, hmid⟩
     ·have HNX := hid (HI.out.next hlt HN1.out HB1.out HO2.out hmid)
      clear hmid h0
      go_wp2_with fail
      go_roundw
      case rel => exact ⟨k + 1, rs, Bs', B', cap', by omega, by go_num, rfl, HNX⟩
      case measure => simp [intOf]; omega
     ·have hpi : 0 < (((kidsT d t).length : Nat) : Int) := by omega
      have HMD := hid hmid
      have HGE := hid hge
      have HP := hid hp
      have HOW : Hid (OwnV W2 23 n0 B' rs.length cap' (rs.map Pn.val)) := (HI.out.own.below HB1.out (Nat.le_refl _)).kept (HO2.out.block B' (HI.out.sep B' HI.out.inB).2.2.1)
      have HZ2 : Hid (n0 ≤ W2.heap.size) := by show _ ≤ _; rw [HO2.out.size]; exact Nat.le_trans HN1.out HB1.out.size
      have HBG : Hid (n0 ≤ B') := (HI.out.sep B' HI.out.inB).1
      clear hmid hge hp
      generalize hkn : (kidsT d t).length = kn at hcell hpi ⊢
      have HKN := hid hkn
      clear hkn
      have HSA : Hid (∀ o : Obj, n0 ≤ (W2.alloc o).heap.size) := fun o => by have h9 := HZ2.out; show _ ≤ _; simp; omega
      go_wp2_with (first
       | (refine wpList_ownV cellN rfl _ _ rfl n0 B' rs.length cap' 1 (rs.map Pn.val) [.slice (some ⟨gK, 0, none⟩) kn cK] _ rfl rfl (HOW.out.alloc _) (src_lit cellN _ W2.heap.size 1 [.slice (some ⟨gK, 0, none⟩) kn cK] (heap_alloc_new W2 _) (fun u hu => by rw [List.mem_singleton.1 hu]; rfl)) (by omega) (HSA.out _) ?_)
       | fail)
      intro g' cap'' W4 j1 j2 j3
      have HNX : Hid (InN n0 D g0 L w M d g c l (g' :: Bs') g' cap'' (k + 1) (rs ++ [⟨d - 1, gK, cK, kidsT d t⟩]) W4) := by
       have hal : ∀ q, q < W2.heap.size → q < (W2.alloc (.cells #[.slice (some ⟨gK, 0, none⟩) kn cK] 23)).heap.size := fun q hq => by simp; omega
       refine HI.out.push hlt HT.out HKW.out HN1.out HB1.out HO2.out HGE.out HP.out HMD.out (by rw [HKN.out]; exact j1) (Nat.le_trans (by simp) j2.size) (fun q hq hne => (j2.block q (hal q hq) (fun e => hne (by injection e))).trans (Below.heap_alloc W2 _ q hq)) ?_ ((HOW.out.alloc _).grown ((Below.refl n0 W2).alloc HZ2.out _) (HSA.out _) j2)
       rcases j3 with j3 | j3
       ·exact .inl j3
       ·exact .inr (by rw [j3]; simp)
      clear j1 j2 j3
      go_wp2_with fail
      go_roundw
      case rel => exact ⟨k + 1, rs ++ [⟨d - 1, gK, cK, kidsT d t⟩], g' :: Bs', g', cap'', by omega, by go_num, by rw [List.length_append]; rfl, HNX⟩
      case measure => simp [intOf]; omega
    ·have hi : ¬ (k : Int) < (l.length : Int) := by omega
     obtain ⟨hout, hless⟩ := HI.out.done (by omega)
     have HOT := hid hout
     have HLS := hid hless
     clear hout hless
     go_wp2_with fail
     go_roundw
     case rel => exact ⟨rs, Bs', B', cap', rfl, by have := HLS.out; have := HFW.out; omega, HOT⟩
     case measure =>
      have h1 := (HMU.out _ (B', rs.length, cap') _ ⟨rs, Bs', rfl, HOT.out⟩).2
      have h2 := HLS.out
      have h3 := HME.out
      show mu (B', rs.length, cap') _ < mu (B, n + 1, cap) _
      omega
attribute [local go_sem ↓] loadN_eq
set_option maxRecDepth 100000 in
theorem renew_nil (w : World) : Calls Tryz.prog 54 #[.slice none 0 0] w fun e w' => (∃ v, e = .returned v) ∧ Below w.heap.size w w' := by
 obtain ⟨W0, hW0⟩ : ∃ W0, w.alloc (.cells #[.slice none 0 0] 23) = W0 := ⟨_, rfl⟩
 have hb0 : Below w.heap.size w W0 := by rw [← hW0]; exact (Below.refl _ _).alloc (Nat.le_refl _) _
 have hnw : W0.heap[w.heap.size]? = some (.cells #[.slice none 0 0] 23 (0, 0)) := by rw [← hW0]; exact heap_alloc_new w _
 have cB : W0.cell? ⟨w.heap.size, 0, none⟩ = some (.slice none 0 0) := cell_of_row _ _ _ _ _ _ hnw
 have HB0 := hid hb0
 clear hb0 hnw
 go_enter Tryz.func54, Tryz.ntmps54
 go_wp2_with fail
 clear hW0
 go_loop [2] (fun v => v = .slice (some ⟨w.heap.size, 0, none⟩) 1 1 ∨ v = .slice (some ⟨w.heap.size, 0, none⟩) 0 1) (fun v => (tri v).2.1)
 case atStart => exact .inl rfl
 case round =>
  rcases hrel with rfl | rfl
  ·go_wp2_with fail
   go_loop [2, 23] (fun v i => v = .slice (some ⟨w.heap.size, 0, none⟩) 0 1 ∧ i = .int .i64 0) (fun v i => 0)
   case atStart => exact ⟨rfl, rfl⟩
   case round =>
    obtain ⟨rfl, rfl⟩ := hrel
    go_wp2_with fail
    go_round
    case rel => exact .inr rfl
    case measure => simp [tri]
  ·go_wp2_with fail
   exact ⟨by simp, _, results_none rfl _ _ _, ⟨⟨_, rfl⟩, HB0.out⟩⟩
theorem b_thru {w w1 w2 : World} (h1 : Below w.heap.size w w1) (h2 : Below w1.heap.size w1 w2) : Below w.heap.size w w2 := h1.trans (h2.mono h1.size)
theorem sum_filter (d : Nat) (p : Tr d → Bool) : ∀ l : List (Tr d), sumN d (l.filter p) ≤ sumN d l
 | [] => Nat.le_refl _
 | t :: l => by
  have ih := sum_filter d p l
  have e : sumN d (t :: l) = szN d t + sumN d l := rfl
  rw [List.filter_cons]
  split
  ·have e2 : sumN d (t :: l.filter p) = szN d t + sumN d (l.filter p) := rfl
   omega
  ·omega
theorem sum_wt (d : Nat) (h : ∀ t : Tr d, szN d t ≤ 2 * wtT d t) : ∀ l : List (Tr d), sumN d l ≤ 2 * (l.map (wtT d)).sum
 | [] => Nat.le_refl _
 | t :: l => by
  have ih := sum_wt d h l
  have e : sumN d (t :: l) = szN d t + sumN d l := rfl
  have := h t
  rw [List.map_cons, List.sum_cons]
  omega
theorem szN_wt : ∀ (d : Nat) (t : Tr d), szN d t ≤ 2 * wtT d t
 | 0, t => by
  show 2 ≤ 2 * (1 + t.1.length + t.2.2.length + attW t.2.1)
  omega
 | d + 1, t => by
  have h := sum_wt d (szN_wt d) t.2
  show 2 + sumN d t.2 ≤ 2 * (1 + t.1.1.length + t.1.2.2.length + attW t.1.2.1 + (t.2.map (wtT d)).sum)
  omega
theorem wt_sum {d : Nat} {t : Tr d} (h : wtT d t ≤ 12000) : sumN (d - 1) (kidsT d t) ≤ 500000 := by
 have h1 := sum_wt (d - 1) (szN_wt (d - 1)) (kidsT d t)
 rw [wt_eq] at h
 omega
set_option maxHeartbeats 2000000 in
set_option maxRecDepth 100000 in
theorem find_any (nm : List UInt8) (d : Nat) (t : Tr d) (hw : wtT d t ≤ 12000) (cs : Array Value) (w : World) (hnd : NdAt (fun q => q < w.heap.size) d w cs t) : Calls Tryz.prog 25 #[.agg cs, .string (asS nm)] w fun e w' => Below w.heap.size w w' ∧ ∃ A c, e = .returned (.slice A (fndT nm (d - 1) (kidsT d t)).length c) ∧ NdsAt (fun _ => True) (d - 1) w' A (fndT nm (d - 1) (kidsT d t)) := by
 obtain ⟨aA, ac, kA, kc, rfl, _, hks, _⟩ := hnd.parts
 unfold ndcs
 have hk : (kidsT d t).length ≤ 12000 := (wt_parts hw).2.2.2.2.1
 have HKW : Hid (∀ t' ∈ kidsT d t, wtT (d - 1) t' ≤ 12000) := (wt_parts hw).2.2.2.2.2
 have HSUM := hid (wt_sum hw)
 have HKS := hid hks
 have HTK := hid (fnd_take nm (d - 1) (kidsT d t))
 have hqn : ((asS nm).toList == []) = nm.isEmpty := str_nil9 nm
 have HEQ : Hid (∀ x : List UInt8, ((asS x).toList == (asS nm).toList) = decide (x = nm)) := fun x => tl_two x nm
 clear hks hnd hw
 generalize asS (lab d t).2.2 = TX
 generalize asS (lab d t).1 = NM
 generalize (lab d t).2.1.length = an
 generalize kidsT d t = ks at HKS HTK hk HKW HSUM ⊢
 have HFL : Hid (∀ k, (fndT nm (d - 1) (ks.take k)).length ≤ 100000) := fun k => by
  have := fnd_len nm (d - 1) (ks.take k)
  rw [List.length_take] at this
  show _ ≤ _
  omega
 generalize hn : ks.length = n at hk HTK ⊢
 have HN := hid hn
 clear hn
 cases hz : nm.isEmpty with
 | true =>
  have HFE : Hid (fndT nm (d - 1) ks = []) := by
   show _ = _
   unfold fndT
   rw [List.filter_eq_nil_iff]
   intro x _
   unfold fndP
   rw [hz]
   simp
  rw [hz] at hqn
  rw [HFE.out]
  clear hz
  generalize asS nm = NS at hqn ⊢
  go_enter Tryz.func25, Tryz.ntmps25
  go_wp2_with fail
  go_ret
  exact ⟨(Below.refl _ _).alloc (Nat.le_refl _) _, none, 0, rfl, NdsAt.nil _ _ _ _⟩
 | false =>
  rw [hz] at hqn
  have HROW := hid (heap_alloc_new w (.cells #[.string NM, .slice aA an ac, .string TX, .slice kA n kc] 25))
  have HB0 := hid ((Below.refl w.heap.size w).alloc (Nat.le_refl _) (.cells #[.string NM, .slice aA an ac, .string TX, .slice kA n kc] 25))
  have HSZ : Hid ((w.alloc (.cells #[.string NM, .slice aA an ac, .string TX, .slice kA n kc] 25)).heap.size = w.heap.size + 1) := Array.size_push _
  obtain ⟨W0, hW0⟩ : ∃ W0, w.alloc (.cells #[.string NM, .slice aA an ac, .string TX, .slice kA n kc] 25) = W0 := ⟨_, rfl⟩
  rw [hW0] at HB0 HROW HSZ
  have c3 : W0.cell? ⟨w.heap.size, 3, none⟩ = some (.slice kA n kc) := cell_of_row _ _ _ _ _ _ HROW.out
  go_enter Tryz.func25, Tryz.ntmps25
  go_wp2_with fail
  clear c3
  go_loopw [5, 13] (fun v i wr => ∃ (k : Nat) (o : List (Tr (d - 1))), k ≤ n ∧ i = .int .i64 (k : Int) ∧ Hid (o = fndT nm (d - 1) (ks.take k)) ∧ Hid (KidsO w.heap.size W0.heap.size wr (d - 1) v o) ∧ Hid (Below W0.heap.size W0 wr)) (fun v i wr => n - (intOf i).toNat)
  case atStart => exact ⟨0, [], Nat.zero_le _, rfl, rfl, .inl ⟨rfl, rfl⟩, Below.refl _ _⟩
  case round =>
   obtain ⟨k, o, hk2, rfl, HO, HOW, HB⟩ := hrel
   have hbw : Hid (Below w.heap.size w wr) := HB0.out.trans (HB.out.mono HB0.out.size)
   by_cases hlt : k < n
   ·have hi : (k : Int) < (n : Int) := by omega
    have hkl : k < ks.length := by have := HN.out; omega
    obtain ⟨q, o', aA2, ac2, kA2, kc2, rfl, hql, k1, k2, k3, k4, hnd⟩ := (HKS.out.below hbw.out (Nat.le_refl _)).at2 k hkl
    have hldq := loadN_mid k1 k2 k3 k4
    unfold ndcs at hnd
    have e1 : (lab (d - 1) (ks.getD k (zeroT (d - 1)))).1 = nmT (d - 1) (ks.getD k (zeroT (d - 1))) := rfl
    have e2 : (lab (d - 1) (ks.getD k (zeroT (d - 1)))).2.2 = txT (d - 1) (ks.getD k (zeroT (d - 1))) := rfl
    rw [e1, e2] at hnd
    have HND := hid hnd
    have HST := hid (HTK.out k hlt)
    rw [← HO.out] at HST
    have heq := HEQ.out (nmT (d - 1) (ks.getD k (zeroT (d - 1))))
    have HLE := hid (HFL.out k)
    rw [← HO.out] at HLE
    clear e1 e2 k2 k3 k4 hnd hkl hql
    unfold fndP at HST
    generalize (lab (d - 1) (ks.getD k (zeroT (d - 1)))).2.1.length = ln1 at hldq HND
    generalize (kidsT (d - 1) (ks.getD k (zeroT (d - 1)))).length = ln2 at hldq HND
    generalize asS (txT (d - 1) (ks.getD k (zeroT (d - 1)))) = KT at hldq HND
    by_cases he : nmT (d - 1) (ks.getD k (zeroT (d - 1))) = nm
    ·rw [decide_eq_true he] at heq HST
     clear he
     generalize asS (nmT (d - 1) (ks.getD k (zeroT (d - 1)))) = KN at hldq HND k1 heq
     generalize ks.getD k (zeroT (d - 1)) = kid at HST HND
     rw [hz] at HST
     have HS2 : Hid (fndT nm (d - 1) (ks.take (k + 1)) = o ++ [kid]) := HST.out
     clear HST
     generalize asS nm = NS at heq hqn ⊢
     obtain ⟨V1, hV1⟩ : ∃ V1, wr.alloc (.cells #[.string KN, .slice aA2 ln1 ac2, .string KT, .slice kA2 ln2 kc2] 25) = V1 := ⟨_, rfl⟩
     have hrowV : V1.heap[wr.heap.size]? = some (.cells #[.string KN, .slice aA2 ln1 ac2, .string KT, .slice kA2 ln2 kc2] 25 (0, 0)) := by rw [← hV1]; exact heap_alloc_new wr _
     have hbV : Below wr.heap.size wr V1 := by rw [← hV1]; exact (Below.refl _ _).alloc (Nat.le_refl _) _
     have f0 : V1.cell? ⟨wr.heap.size, 0, none⟩ = some (.string KN) := cell_of_row _ _ _ _ _ _ hrowV
     have hld2 := loadN_run hrowV rfl
     have HBV := hid hbV
     have HNV := hid (HND.out.below hbV (Nat.le_refl _))
     have HOV := hid (HOW.out.below hbV)
     have HSV : Hid (w.heap.size ≤ W0.heap.size ∧ W0.heap.size ≤ V1.heap.size) := ⟨HB0.out.size, Nat.le_trans HB.out.size hbV.size⟩
     clear hrowV hbV
     go_wp2_with (first
      | (refine wpList_rowO rfl _ _ rfl w.heap.size W0.heap.size (d - 1) _ _ o _ kid rfl rfl (HOV.out.below ((Below.refl _ _).alloc (Nat.le_refl _) _)) (src_nd (HNV.out.below ((Below.refl V1.heap.size V1).alloc (Nat.le_refl _) _) (Nat.le_refl _)) V1.heap.size 1 (heap_alloc_new V1 _)) rfl (HNV.out.below ((Below.refl V1.heap.size V1).alloc (Nat.le_refl _) _) (Nat.le_refl _)) (by have := HLE.out; omega) HSV.out.1 (Nat.le_trans HSV.out.2 (by simp)) ?_)
      | fail)
     intro v' w' j1 j2
     have J1 := hid j1
     have HBN : Hid (Below W0.heap.size W0 w') := HB.out.trans ((HBV.out.mono HB.out.size).trans (((((Below.refl V1.heap.size V1).alloc (Nat.le_refl _) _)).mono HSV.out.2).trans j2))
     clear j1 j2
     go_wp2_with fail
     go_roundw
     case rel => exact ⟨k + 1, o ++ [kid], by omega, by go_num, HS2.out.symm, J1, HBN⟩
     case measure => simp [intOf]; omega
    ·rw [decide_eq_false he] at heq HST
     have HS2 : Hid (fndT nm (d - 1) (ks.take (k + 1)) = o) := by
      show _ = _
      rw [HST.out]
      simp
     clear he HST
     generalize asS (nmT (d - 1) (ks.getD k (zeroT (d - 1)))) = KN at hldq HND k1 heq
     generalize asS nm = NS at heq hqn ⊢
     go_wp2_with fail
     go_roundw
     case rel => exact ⟨k + 1, o, by omega, by go_num, HS2.out.symm, HOW.out.below ((Below.refl _ _).alloc (Nat.le_refl _) _), HB.out.trans (((Below.refl _ _).alloc (Nat.le_refl _) _).mono HB.out.size)⟩
     case measure => simp [intOf]; omega
   ·have hi : ¬ (k : Int) < (n : Int) := by omega
    have HFN : Hid (o = fndT nm (d - 1) ks) := by
     have := HO.out
     rw [List.take_of_length_le (by have := HN.out; omega)] at this
     exact this
    have HON := HOW.out
    rcases HON with ⟨h0, rfl⟩ | ⟨gF, cF, rfl, hge, hpos, hrow⟩
    ·have ho : o = [] := List.length_eq_zero_iff.1 h0
     have HRN := hid (renew_nil wr)
     go_wp2_with (first
      | (go_at_call 54; refine HRN.out.mono ?_; rintro e w1 ⟨⟨v9, rfl⟩, hb1⟩)
      | fail)
     go_ret
     rw [← HFN.out]
     refine ⟨b_thru hbw.out hb1, none, 0, ?_, ?_⟩
     ·rw [h0]; rfl
     ·rw [ho]; exact NdsAt.nil _ _ _ _
    ·have HLW : Hid (∀ t ∈ o, wtT (d - 1) t ≤ 12000) := fun t' h' => HKW.out t' (by rw [HFN.out] at h'; exact (List.mem_filter.1 h').1)
     have HSZ2 : Hid (szR (d - 1) o ≤ 1000000) := by
      have h1 := sum_filter (d - 1) (fndP nm (d - 1)) ks
      have h2 := HSUM.out
      show _ ≤ _
      rw [szR_eq, HFN.out]
      unfold fndT
      omega
     have HRN := hid (renew_any w.heap.size (d - 1) gF cF o wr hbw.out.size hrow hpos HLW.out HSZ2.out)
     clear hge hrow
     go_wp2_with (first
      | (go_at_call 54; refine HRN.out.mono ?_; rintro e w1 ⟨⟨v9, rfl⟩, hnds, hb1⟩)
      | fail)
     go_ret
     rw [← HFN.out]
     exact ⟨hbw.out.trans hb1, some ⟨gF, 0, none⟩, cF, rfl, hnds⟩
attribute [local go_sem ↓] loadN_eq
theorem txt_fits {d : Nat} {t : Tr d} (hw : wtT d t ≤ 12000) : (listT d 1 t).length ≤ 100000 ∧ (textT d t).length ≤ 12000 := ⟨Nat.le_trans (list_wt 12000 d 1 t hw).2 (by omega), Nat.le_trans (text_wt d t) hw⟩
theorem fnd_wt {nm : List UInt8} {d : Nat} {t : Tr d} (hw : wtT d t ≤ 12000) : ∀ k ∈ fndT nm (d - 1) (kidsT d t), wtT (d - 1) k ≤ 12000 := fun k hk => (wt_parts hw).2.2.2.2.2 k (List.mem_filter.1 hk).1
theorem fnd_few {nm : List UInt8} {d : Nat} {t : Tr d} (hw : wtT d t ≤ 12000) : (fndT nm (d - 1) (kidsT d t)).length ≤ 12000 := Nat.le_trans (fnd_len nm (d - 1) (kidsT d t)) (wt_parts hw).2.2.2.2.1
theorem kid_len (nm : List UInt8) {d : Nat} {t : Tr d} (hw : wtT d t ≤ 12000) : (kidL nm d t).length ≤ 12000 := by
 unfold kidL firstT
 cases h : fndT nm (d - 1) (kidsT d t) with
 | nil => exact Nat.zero_le _
 | cons k r => exact (txt_fits (fnd_wt hw k (by rw [h]; exact List.mem_cons_self))).2
theorem attr_len (nm : List UInt8) {d : Nat} {t : Tr d} (hw : wtT d t ≤ 12000) : ((attrV nm (attsT d t)).getD []).length ≤ 12000 := by
 have hal := (wt_parts hw).2.2.2.1
 unfold attsT
 generalize (lab d t).2.1 = l at hal ⊢
 induction l with
 | nil => exact Nat.zero_le _
 | cons a r ih =>
  unfold attrV
  split
  ·exact (hal a List.mem_cons_self).2
  ·exact ih fun x hx => hal x (List.mem_cons_of_mem _ hx)
theorem find_at (nm : List UInt8) (d : Nat) (t : Tr d) (hw : wtT d t ≤ 12000) (P : Nat → Prop) (cs : Array Value) (w W : World) (hnd : NdAt P d w cs t) (hb : Below w.heap.size w W) : Calls Tryz.prog 25 #[.agg cs, .string (asS nm)] W fun e w' => ∃ v, e = .returned v ∧ (Below W.heap.size W w' ∧ ∃ A' c, v = .slice A' (fndT nm (d - 1) (kidsT d t)).length c ∧ NdsAt (fun _ => True) (d - 1) w' A' (fndT nm (d - 1) (kidsT d t))) :=
 (find_any nm d t hw _ W ((hnd.below hb (Nat.le_refl _)).mono fun q _ hl => hl)).mono fun e w' hh => by
  obtain ⟨h1, A', c, rfl, h2⟩ := hh
  exact ⟨_, rfl, h1, A', c, rfl, h2⟩
theorem text_at (d : Nat) (t : Tr d) (hw : wtT d t ≤ 12000) (P : Nat → Prop) (cs : Array Value) (W : World) (hnd : NdAt P d W cs t) : Calls Tryz.prog 122 #[.agg cs] W fun e w' => e = .returned (.string (asS (textT d t))) ∧ Below W.heap.size W w' :=
 text_any d t _ W (hnd.mono fun q _ hl => hl) (txt_fits hw).1 (Nat.le_trans (txt_fits hw).2 (by omega))
theorem NdsAt.load {P : Nat → Prop} {w : World} {d : Nat} {A : Option Addr} {l : List (Tr d)} (h : NdsAt P d w A l) (j : Nat) (hj : j < l.length) :
  ∃ q o a b c e, A = some ⟨q, o, none⟩ ∧ q < w.heap.size ∧ (loadI 25 (.pointer (some ⟨q, o + j * 4, none⟩))).run Tryz.prog w = .ok (.agg #[a, b, c, e]) w ∧ NdAt P d w #[a, b, c, e] (l.getD j (zeroT d)) := by
 obtain ⟨q, o, a, b, c, e, h1, h2, h3, h4, h5, h6, h7⟩ := h.at j hj
 exact ⟨q, o, a, b, c, e, h1, h2, loadN_mid h3 h4 h5 h6, h7⟩
theorem NdsAt.load2 {P : Nat → Prop} {w : World} {d : Nat} {A : Option Addr} {l : List (Tr d)} (h : NdsAt P d w A l) (j : Nat) (hj : j < l.length) :
  ∃ q o N aA an ac T kA kn kc, A = some ⟨q, o, none⟩ ∧ q < w.heap.size ∧ (loadI 25 (.pointer (some ⟨q, o + j * 4, none⟩))).run Tryz.prog w = .ok (.agg #[.string N, .slice aA an ac, .string T, .slice kA kn kc]) w ∧ NdAt P d w #[.string N, .slice aA an ac, .string T, .slice kA kn kc] (l.getD j (zeroT d)) := by
 obtain ⟨q, o, aA, ac, kA, kc, h1, h2, h3, h4, h5, h6, h7⟩ := h.at2 j hj
 unfold ndcs at h7
 exact ⟨q, o, _, aA, _, ac, _, kA, _, kc, h1, h2, loadN_mid h3 h4 h5 h6, h7⟩
set_option maxRecDepth 100000 in
theorem textOf_any (nm : List UInt8) (d : Nat) (t : Tr d) (hw : wtT d t ≤ 12000) (P : Nat → Prop) (cs : Array Value) (w : World) (hnd : NdAt P d w cs t) : Calls Tryz.prog 93 #[.agg cs, .string (asS nm)] w fun e w' => e = .returned (.string (asS (kidL nm d t))) ∧ Below w.heap.size w w' := by
 have HFI := hid (fun W hb => find_at nm d t hw P cs w W hnd hb)
 obtain ⟨A, B, C, D, rfl, o1, o2, o3, o4⟩ := nd_four (hnd.mono fun q _ hl => hl)
 have HROW := hid (heap_alloc_new w (.cells #[A, B, C, D] 25))
 have HB0 := hid ((Below.refl w.heap.size w).alloc (Nat.le_refl _) (.cells #[A, B, C, D] 25))
 obtain ⟨W0, hW0⟩ : ∃ W0, w.alloc (.cells #[A, B, C, D] 25) = W0 := ⟨_, rfl⟩
 rw [hW0] at HB0 HROW
 have hld0 := loadN_run HROW.out rfl
 have HWT := hid (fun k hk => fnd_wt (nm := nm) hw k hk)
 have hlen : (fndT nm (d - 1) (kidsT d t)).length ≤ 12000 := fnd_few hw
 have hkl : kidL nm d t = match (fndT nm (d - 1) (kidsT d t)).head? with
  | none => []
  | some k => textT (d - 1) k := rfl
 rw [hkl]
 clear hkl hnd o1 o2 o3 o4 hw
 generalize fndT nm (d - 1) (kidsT d t) = fl at HFI HWT hlen ⊢
 generalize asS nm = NS at HFI ⊢
 cases fl with
 | nil =>
  show Calls Tryz.prog 93 #[.agg #[A, B, C, D], .string NS] w fun e w' => e = .returned (.string ⟨#[]⟩) ∧ Below w.heap.size w w'
  go_enter Tryz.func93, Tryz.ntmps93
  go_wp2_with fail
  refine (HFI.out W0 HB0.out).mono ?_
  rintro e W1 ⟨v, rfl, hb1, A1, c1, rfl, hn1⟩
  go_wp2_with fail
  go_ret
  exact ⟨rfl, HB0.out.trans (hb1.mono HB0.out.size)⟩
 | cons k r =>
  have HWK := hid (HWT.out k List.mem_cons_self)
  show Calls Tryz.prog 93 #[.agg #[A, B, C, D], .string NS] w fun e w' => e = .returned (.string (asS (textT (d - 1) k))) ∧ Below w.heap.size w w'
  have hq : (((k :: r).length : Int) == 0) = false := by rw [List.length_cons, beq_eq_false_iff_ne]; omega
  have hpos : 0 < (k :: r).length := by simp
  have hi0 : (0 : Int) < ((k :: r).length : Int) := by rw [List.length_cons]; omega
  have HGD : Hid ((k :: r).getD 0 (zeroT (d - 1)) = k) := rfl
  have HTT : Hid (∀ (P : Nat → Prop) (cs : Array Value) (W : World), NdAt P (d - 1) W cs k → Calls Tryz.prog 122 #[.agg cs] W fun e w' => e = .returned (.string (asS (textT (d - 1) k))) ∧ Below W.heap.size W w') := fun P cs W hk => text_at (d - 1) k HWK.out P cs W hk
  generalize asS (textT (d - 1) k) = TX at HTT ⊢
  clear HWT
  go_enter Tryz.func93, Tryz.ntmps93
  go_wp2_with fail
  refine (HFI.out W0 HB0.out).mono ?_
  rintro e W1 ⟨v, rfl, hb1, A1, c1, rfl, hn1⟩
  obtain ⟨q, o, a1, a2, a3, a4, rfl, hql, hld, hk⟩ := hn1.load 0 hpos
  rw [Nat.zero_mul, Nat.add_zero] at hld
  rw [HGD.out] at hk
  have HB1 := hid (HB0.out.trans (hb1.mono HB0.out.size))
  have HTX := hid (HTT.out _ _ W1 hk)
  clear hn1 hb1 hk HGD HWK
  generalize (k :: r).length = n at hq hlen hpos hi0 ⊢
  go_wp2_with fail
  refine HTX.out.mono ?_
  rintro e W2 ⟨rfl, hb2⟩
  go_wp2_with fail
  go_ret
  exact ⟨rfl, HB1.out.trans (hb2.mono HB1.out.size)⟩
set_option maxRecDepth 100000 in
theorem shortOf_any (nm : List UInt8) (d : Nat) (t : Tr d) (hw : wtT d t ≤ 12000) (P : Nat → Prop) (cs : Array Value) (w : World) (hnd : NdAt P d w cs t) : Calls Tryz.prog 56 #[.agg cs, .string (asS nm)] w fun e w' => e = .returned (.string (asS (shL (kidL nm d t)))) ∧ Below w.heap.size w w' := by
 have HTX : Hid (∀ W, Below w.heap.size w W → Calls Tryz.prog 93 #[.agg cs, .string (asS nm)] W fun e w' => e = .returned (.string (asS (kidL nm d t))) ∧ Below W.heap.size W w') := fun W hb => textOf_any nm d t hw P cs W (hnd.below hb (Nat.le_refl _))
 have HSH := hid (fun W => short_any (kidL nm d t) (Nat.le_trans (kid_len nm hw) (by omega)) W)
 obtain ⟨A, B, C, D, rfl, o1, o2, o3, o4⟩ := nd_four (hnd.mono fun q _ hl => hl)
 have HROW := hid (heap_alloc_new w (.cells #[A, B, C, D] 25))
 have HB0 := hid ((Below.refl w.heap.size w).alloc (Nat.le_refl _) (.cells #[A, B, C, D] 25))
 obtain ⟨W0, hW0⟩ : ∃ W0, w.alloc (.cells #[A, B, C, D] 25) = W0 := ⟨_, rfl⟩
 rw [hW0] at HB0 HROW
 have hld0 := loadN_run HROW.out rfl
 clear hnd o1 o2 o3 o4 hw
 generalize asS (shL (kidL nm d t)) = R at HSH ⊢
 generalize asS (kidL nm d t) = TX at HTX HSH
 generalize asS nm = NS at HTX ⊢
 go_enter Tryz.func56, Tryz.ntmps56
 go_wp2_with fail
 refine (HTX.out W0 HB0.out).mono ?_
 rintro e W1 ⟨rfl, hb1⟩
 have HB1 := hid (HB0.out.trans (hb1.mono HB0.out.size))
 clear hb1 hld0
 go_wp2_with fail
 refine (HSH.out W1).mono ?_
 rintro e W2 ⟨rfl, hb2⟩
 have HB2 := hid (HB1.out.trans (hb2.mono HB1.out.size))
 clear hb2
 go_wp2_with fail
 go_ret
 exact ⟨rfl, HB2.out⟩
end Go.Proofs.YtgoiafndapemjaaGreatDoor
