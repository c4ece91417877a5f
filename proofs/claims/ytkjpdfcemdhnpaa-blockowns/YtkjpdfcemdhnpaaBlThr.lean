
/- through: the writes that come through a crash. -/
import Derived.Test.YtkjpdfcemdhnpaaBlBuilt
namespace Go.Proofs.Ytkjpdfcemdhnpaa
set_option linter.unusedVariables false
set_option linter.unusedSimpArgs false
open Go.RowKit Go.BigFrame

/-- append to a part of a row that ends where it ends: a new row. -/
theorem run_wG (ty : TypeId) {P : Nat → Prop} {w : World} {A : Option Addr} {x : Value} {l : List TB} {q : TB} (h : WsAt P w A l) (hA : l.length = 0 → A = none ∨ ∃ a, A = some a) (hw : Wide l) (hq : q.2.2.length = 64) (hs : Src Try.prog 66 57 x 1 (wvs [q]) w) (hn : l.length ≤ 1000000) :
    ∃ cap w', (Builtin.append_ #[57, 57] ty #[.slice A l.length l.length, x]).run Try.prog w = .ok (.slice (some ⟨w.heap.size, 0, none⟩) (l.length + 1) cap) w' ∧ OwnK w' 66 71 0 w.heap.size (l.length + 1) cap (wvs (l ++ [q])) ∧ Below w.heap.size w w' := by
  obtain ⟨i0, z, hi, hz0, hz1, hz2, hzc⟩ := (wrK).info
  have hl := wvs_len l hw
  have hs' : Src Try.prog i0.size 57 x 1 (wvs [q]) w := by rw [hz1]; exact hs
  have hold : (Builtin.firstCells i0.size l.length (.slice A l.length l.length)).run Try.prog w.drew = .ok (wvs l).toArray w.drew := by
    by_cases h0 : l.length = 0
    · obtain rfl := List.length_eq_zero_iff.1 h0
      rcases hA rfl with rfl | ⟨a, rfl⟩
      · simp [Builtin.firstCells, wvs]
      · exact run_firstCells_some w.drew i0.size 0 a 0 0 [] (by simp) (fun j u hu => by simp at hu)
    · obtain ⟨g, o, rfl, _, _, hc⟩ := h (by omega)
      refine run_firstCells_some w.drew i0.size l.length ⟨g, o, none⟩ l.length l.length (wvs l) (by rw [hz1, hl]) (fun j u hu => ?_)
      have hj : j < l.length * 66 := by rw [← hl]; exact (List.getElem?_eq_some_iff.1 hu).1
      have e := wvs_at l (j / 66) (j % 66) hw (by omega) (by omega)
      rw [show j / 66 * 66 + j % 66 = j from by omega, hu] at e
      rw [Addr.add_mid]
      have := hc (j / 66) (by omega) (j % 66) u e.symm
      rw [show o + j / 66 * 66 + j % 66 = o + j from by omega] at this
      exact this
  have hr := run_append_grow_src w 57 57 ty 71 i0 z (wrK).sl hi hz0 A l.length l.length (wvs l) hold x 1 (wvs [q]) hs' (by omega) (by omega) (growslice_fits (by omega) (by
    have : (l.length + 1) * i0.bytes ≤ 1000001 * 100 := Nat.mul_le_mul (by omega) hz2
    omega))
  have hge := grownCap_ge w (l.length + 1) l.length 71
  refine ⟨_, _, hr, ⟨Nat.zero_le _, by rw [wvs_len _ (wide_snoc hw hq), List.length_append]; rfl, (Builtin.zeroCells z.cells (grownCap w (l.length + 1) l.length 71 - (l.length + 1))).toList, ?_, ?_, hge⟩, ((Below.refl _ _).drew).alloc (Nat.le_refl _) _⟩
  · rw [show w.heap.size = w.drew.heap.size from rfl, heap_alloc_new w.drew _, wvs_app]
    congr 2
    apply Array.ext'
    simp
  · rw [Array.length_toList, size_zeroCells, hzc]
theorem wpList_wG {ops : Array Oper} {rest : List Oper} {o : Oper} {a : Act} {w : World} {Q : Exit → Act → World → Prop} (hgd : o.guard = none) (s x : Operand)
    (ho : o.op = .call { callee := .builtin .append, args := #[s, x], argTypes := #[57, 57] })
    (P : Nat → Prop) (A : Option Addr) (xv : Value) (l : List TB) (q : TB) (n : Nat) (hn0 : n = l.length) (hs : a.eval s = .slice A n n) (hx : a.eval x = xv) (h : WsAt P w A l) (hA : l.length = 0 → A = none ∨ ∃ a, A = some a) (hw : Wide l) (hq : q.2.2.length = 64) (hsr : Src Try.prog 66 57 xv 1 (wvs [q]) w) (hn : l.length ≤ 1000000)
    (hk : ∀ cap w', OwnK w' 66 71 0 w.heap.size (l.length + 1) cap (wvs (l ++ [q])) → Below w.heap.size w w' → wpList Try.prog ops Q rest (a.put o.dst (.slice (some ⟨w.heap.size, 0, none⟩) (l.length + 1) cap)) w') : wpList Try.prog ops Q (o :: rest) a w := by
  refine wpList_plain hgd fun _ hK => ?_
  subst hn0
  obtain ⟨cap, w', hr, h2, h3⟩ := run_wG o.type h hA hw hq hsr hn
  unfold Oper.wp execOp
  simp only [ho, resolve, invoke, builtin, Sem.run_bind, Sem.run_pure, Result.andThen_ok, List.map_toArray, List.map_cons, List.map_nil, hs, hx, hr]
  exact hK _ _ (hk cap w' h2 h3)
theorem info3b : (Try.prog.info? 3).map (·.size) = some 1 := by kernel_rfl
/-- What comes through, as the program has it. -/
def thrT (l : List TB) (k : Nat) (t : Int) : List TB := if l.length ≤ k then l else l.take k ++ [((l.getD k tb0).1, cutB t, (l.getD k tb0).2.2)]
theorem wpList_wrow {ops : Array Oper} {rest : List Oper} {op : Oper} {a : Act} {w : World} {Q : Exit → Act → World → Prop} (hgd : op.guard = none) (x : Operand) (ho : op.op = .load 71 x)
    (b : Nat) (hx : a.eval x = .pointer (some ⟨b, 0, none⟩)) (q : TB) (hq : q.2.2.length = 64) {t : TypeId} {fr : Nat × Nat} (hc : w.heap[b]? = some (.cells (wcs q) t fr))
    (h : wpList Try.prog ops Q rest (a.put op.dst (.agg (wcs q))) w) : wpList Try.prog ops Q (op :: rest) a w :=
  wpList_wr hgd x ho b 0 hx q hq (fun i v hv => by rw [cell_of_row _ _ _ _ _ _ hc, Nat.zero_add]; exact hv) h
theorem thrT_ok {n k : Nat} {t : Int} {W : List WrB} (h : FullB n W) : (thrT (full W) k t).map toW = thrB W k t ∧ Wide (thrT (full W) k t) ∧ (∀ q ∈ thrT (full W) k t, q.1 < n ∧ q.2.1 ≤ 64) ∧ (thrT (full W) k t).length ≤ W.length := by
  unfold thrT
  rw [full_len]
  by_cases hk : W.length ≤ k
  · rw [if_pos hk, thrB_ge t hk, full_toW h]
    refine ⟨rfl, full_wide h, fun q hq => ?_, by rw [full_len]; exact Nat.le_refl _⟩
    obtain ⟨p, hp, rfl⟩ := List.mem_map.1 hq
    exact ⟨(h p hp).1, Nat.le_refl _⟩
  · have hk2 : k < W.length := by omega
    have hm : W.getD k (0, []) ∈ W := by rw [List.getD_eq_getElem?_getD, List.getElem?_eq_getElem hk2]; exact List.getElem_mem _
    have hw := h _ hm
    rw [if_neg hk, thrB_lt t hk2, full_at W k hk2]
    have ht : (full W).take k = full (W.take k) := by unfold full; rw [List.map_take]
    have hf : FullB n (W.take k) := fun q hq => h q (List.mem_of_mem_take hq)
    rw [ht]
    refine ⟨?_, wide_snoc (full_wide hf) hw.2, fun q hq => ?_, ?_⟩
    · rw [List.map_append, full_toW hf]
      rfl
    · rcases List.mem_append.1 hq with hq | hq
      · obtain ⟨p, hp, rfl⟩ := List.mem_map.1 hq
        exact ⟨(hf p hp).1, Nat.le_refl _⟩
      · rw [List.mem_singleton.1 hq]
        exact ⟨hw.1, cutB_le t⟩
    · rw [List.length_append, full_len, List.length_take, List.length_singleton]
      omega
attribute [local go_sem ↓] loadC_eq storeC_eq zeroW bsW_eq
set_option maxHeartbeats 8000000 in
set_option maxRecDepth 100000 in
theorem through_any (P : Nat → Prop) (v : Value) (l : List TB) (k t : Int) (w : World) (h : OwnW P w v l) (hl : l.length ≤ 1000) :
    Calls Try.prog 31 #[v, .int .i64 k, .int .i64 t] w fun x w' => (∃ A c, x = .returned (.slice A (thrT l k.toNat t).length c) ∧ WsAt (fun q => (P q ∧ q < w.heap.size) ∨ w.heap.size ≤ q) w' A (thrT l k.toNat t)) ∧ Below w.heap.size w w' := by
  by_cases hk : l.length ≤ k.toNat
  · have hT : thrT l k.toNat t = l := by unfold thrT; rw [if_pos (by omega)]
    rw [hT]
    rcases h with ⟨rfl, rfl⟩ | ⟨g, cap, rfl, hP, hw, hO⟩
    · have hmm : min (max k 0) (0 : Int) = 0 := by omega
      clear hk hT
      go_enter Try.func31, Try.ntmps31
      go_wp2_with fail
      go_ret
      exact ⟨⟨none, 0, rfl, fun h => absurd h (by simp)⟩, Below.refl _ _⟩
    · have hmm : min (max k 0) (l.length : Int) = (l.length : Int) := by omega
      have hle : l.length ≤ cap := hO.le
      have hi : (l.length : Int) ≤ (cap : Int) := by omega
      have HWS := hid ((OwnW.reads (P := P) (.inr ⟨g, cap, rfl, hP, hw, hO⟩)).frame (P' := fun q => (P q ∧ q < w.heap.size) ∨ w.heap.size ≤ q) (W := w) (Nat.le_refl _) fun q hq hl => ⟨rfl, .inl ⟨hq, hl⟩⟩)
      clear hk hT hO
      go_enter Try.func31, Try.ntmps31
      go_wp2_with fail
      go_ret
      exact ⟨⟨_, _, rfl, HWS.out⟩, Below.refl _ _⟩
  · obtain ⟨K, hK⟩ : ∃ K : Nat, K = k.toNat := ⟨_, rfl⟩
    rw [← hK]
    have hKl : K < l.length := by omega
    have hmm : min (max k 0) (l.length : Int) = (K : Int) := by omega
    have hmt : min (max t 0) (64 : Int) = (cutB t : Int) := by unfold cutB; split <;> (try split) <;> omega
    have hT : thrT l K t = l.take K ++ [((l.getD K tb0).1, cutB t, (l.getD K tb0).2.2)] := by unfold thrT; rw [if_neg (by omega)]
    rcases h with ⟨rfl, rfl⟩ | ⟨g, cap, rfl, hP, hw, hO⟩
    · simp at hKl
    · have hrd := OwnW.reads (P := P) (.inr ⟨g, cap, rfl, hP, hw, hO⟩)
      have hmem : l.getD K tb0 ∈ l := by rw [List.getD_eq_getElem?_getD, List.getElem?_eq_getElem hKl]; exact List.getElem_mem _
      have hd64 : (l.getD K tb0).2.2.length = 64 := hw _ hmem
      have hgl := hO.lt
      obtain ⟨q1, o1, e1, -, -, hqc⟩ := hrd (by omega)
      have e1' : g = q1 ∧ 0 = o1 := by injection e1 with e1; injection e1 with e2 e3; exact ⟨e2, e3⟩
      obtain ⟨rfl, rfl⟩ := e1'
      have HCE : Hid (∀ i v, (wcs (l.getD K tb0))[i]? = some v → w.cell? ⟨g, K * 66 + i, none⟩ = some v) := fun i v hv => by have := hqc K hKl i v hv; rw [Nat.zero_add] at this; exact this
      have hle : l.length ≤ cap := hO.le
      have hi : (K : Int) ≤ (cap : Int) := by omega
      have hi2 : (K : Int) < (l.length : Int) := by omega
      have hne : ((K : Int) == (l.length : Int)) = false := by rw [beq_eq_false_iff_ne]; omega
      have HTK := hid (hrd.take K)
      have hzk : (l.take K).length = K := by rw [List.length_take]; omega
      have HZK := hid hzk
      have HTT := hid hT
      have HWK : Hid (Wide (l.take K)) := fun q hq => hw q (List.mem_of_mem_take hq)
      have HPG := hid hP
      clear hqc e1 hrd hT hk hK hO hw hmem hP
      generalize l.getD K tb0 = q at HCE hd64 HTT
      have hq66 : (wcs q).size = 66 := wcs_size hd64
      obtain ⟨q2, hq2⟩ : ∃ q2 : TB, q2 = (q.1, cutB t, q.2.2) := ⟨_, rfl⟩
      rw [← hq2] at HTT
      have hset : (wcs q).setIfInBounds 1 (.int .i64 (cutB t : Int)) = wcs q2 := by
        rw [hq2]
        unfold wcs
        simp
      have hd2 : q2.2.2.length = 64 := by rw [hq2]; exact hd64
      have HST := hid hset
      have hbs := run_bsW q2 hd2
      have HAL := hid ((Below.refl w.heap.size w).alloc (Nat.le_refl _) (.cells (wcs (0, 0, zer 64)) 71))
      have HNW := hid (heap_alloc_new w (.cells (wcs (0, 0, zer 64)) 71 (0, 0)))
      clear hset hq2
      generalize cutB t = ct at hmt HST
      go_enter Try.func31, Try.ntmps31
      go_wp2_with (first
        | (refine wpList_wr rfl _ rfl g (K * 66) rfl q hd64 HCE.out ?_)
        | (refine wpList_store_abs rfl 71 (.tmp 8) (.tmp 26) rfl w.heap.size 0 (wcs q) rfl rfl 71 _ HNW.out (by rw [hq66]; exact Nat.le_refl _) (by rw [hq66]; exact size66) (wcs_all q) ?_; intro W2 hO hR; rw [over_whole (wcs (0, 0, zer 64)) (wcs q) (by rw [hq66]; rfl)] at hR; have HB2 : Hid (Below w.heap.size w W2) := HAL.out.trans (hO.below (Nat.le_refl _)); have HR2 := hid hR; clear hO hR)
        | (refine store_part rfl 3 _ _ rfl w.heap.size 1 (.int .i64 (ct : Int)) _ (wcs q) (wcs q2) rfl rfl info3b (by rw [hq66]; decide) rfl rfl HR2.out HST.out ?_; intro W3 ho hr; have HB3 : Hid (Below w.heap.size w W3) := HB2.out.trans (ho.below (Nat.le_refl _)); have HR3 := hid hr; have HBA3 := hid ((Below.refl W3.heap.size W3).alloc (Nat.le_refl _) (.cells (wcs q2) 71)); have HB4 := hid (HB3.out.trans (HBA3.out.mono HB3.out.size)); clear ho hr)
        | (refine wpList_wrow rfl _ rfl w.heap.size rfl q2 hd2 HR3.out ?_)
        | (refine wpList_wG rfl _ _ rfl (fun q => True) (some ⟨g, 0, none⟩) _ (l.take K) q2 K HZK.out.symm rfl rfl ((HTK.out).frame HB4.out.size (fun x hx hl => ⟨HB4.out.block x hl, trivial⟩)) (fun _ => .inr ⟨_, rfl⟩) HWK.out hd2 (src_w _ W3.heap.size 1 q2 hd2 (heap_alloc_new W3 _)) (by rw [HZK.out]; omega) ?_; intro cap5 W5 h5 hb5; have HO5 := hid h5; have HB5 := hid hb5; clear h5 hb5)
        | fail)
      go_ret
      have hs1 : (W3.alloc (.cells (wcs q2) 71)).heap.size = W3.heap.size + 1 := by simp
      have h5 := HO5.out
      rw [hs1] at h5
      have hW3 := HB3.out.size
      have hown : OwnW (fun q => w.heap.size ≤ q) W5 (.slice (some ⟨W3.heap.size + 1, 0, none⟩) (l.take K ++ [q2]).length cap5) (l.take K ++ [q2]) := .inr ⟨_, _, rfl, by omega, wide_snoc HWK.out hd2, by rw [List.length_append, List.length_singleton]; exact h5⟩
      refine ⟨⟨some ⟨W3.heap.size + 1, 0, none⟩, cap5, ?_, ?_⟩, (HB4.out.trans (HB5.out.mono HB4.out.size))⟩
      · rw [HTT.out, List.length_append, HZK.out]; rfl
      · rw [HTT.out]
        exact hown.reads.frame (Nat.le_refl _) fun x hx _ => ⟨rfl, .inr hx⟩
end Go.Proofs.Ytkjpdfcemdhnpaa
