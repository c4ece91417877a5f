
/- Messages as cells: how they are stored, loaded and handed back; which bytes and headers they hold. -/
import Derived.Test.YtclonnpglikddaaGreatDoorHtBody
namespace Go.Proofs.YtclonnpglikddaaGreatDoor
set_option linter.unusedVariables false
set_option linter.unusedSimpArgs false
open Go.RowKit Go.BigFrame

theorem msg_one (A B C D : Value) (h1 : A.oneCell' = true) (h2 : B.oneCell' = true) (h3 : C.oneCell' = true) (h4 : D.oneCell' = true) : (#[A, B, C, D] : Array Value).all (·.oneCell') = true := by
  refine all_oneCell_toArray (cs := [A, B, C, D]) fun v hv => ?_
  simp only [List.mem_cons, List.not_mem_nil, or_false] at hv
  rcases hv with rfl | rfl | rfl | rfl
  · exact h1
  · exact h2
  · exact h3
  · exact h4
theorem info25 : (Tryz.prog.info? 25).map (·.size) = some 4 := by kernel_rfl
theorem info40 : (Tryz.prog.info? 40).map (·.size) = some 4 := by kernel_rfl
theorem store_msg {t : TypeId} (ht : (Tryz.prog.info? t).map (·.size) = some 4) {ops : Array Oper} {rest : List Oper} {op : Oper} {a : Act} {w : World} {Q : Exit → Act → World → Prop} (hgd : op.guard = none) (x y : Operand) (ho : op.op = .store t x y)
    (b : Nat) (A B C D : Value) (h1 : A.oneCell' = true) (h2 : B.oneCell' = true) (h3 : C.oneCell' = true) (h4 : D.oneCell' = true) (hx : a.eval x = .pointer (some ⟨b, 0, none⟩)) (hy : a.eval y = .agg #[A, B, C, D])
    (cs : Array Value) (hrow : w.heap[b]? = some (.cells cs t (0, 0))) (hz : cs.size = 4)
    (h : ∀ W, Only b w W → W.heap[b]? = some (.cells #[A, B, C, D] t (0, 0)) → wpList Tryz.prog ops Q rest (a.put op.dst undef) W) : wpList Tryz.prog ops Q (op :: rest) a w :=
  wpList_store_abs hgd t x y ho b 0 #[A, B, C, D] hx hy t cs hrow (by rw [hz]; exact Nat.le_refl _) ht (msg_one A B C D h1 h2 h3 h4)
    (fun W q1 q2 => h W q1 (by rw [q2, over_whole cs #[A, B, C, D] (by rw [hz]; rfl)]))
theorem load25 {w : World} {g : Nat} {cs : Array Value} {fr : Nat × Nat} (hg : w.heap[g]? = some (.cells cs 25 fr)) (hz : cs.size = 4) : (loadVar 25 ⟨g, 0, none⟩).run Tryz.prog w = .ok (.agg cs) w :=
  run_loadVar_row w g 25 25 cs fr _ hg Tryz.underlying25 rfl (by rw [hz]; exact info25)
theorem load40 {w : World} {g : Nat} {cs : Array Value} {fr : Nat × Nat} (hg : w.heap[g]? = some (.cells cs 40 fr)) (hz : cs.size = 4) : (loadVar 40 ⟨g, 0, none⟩).run Tryz.prog w = .ok (.agg cs) w :=
  run_loadVar_row w g 40 40 cs fr _ hg Tryz.underlying40 rfl (by rw [hz]; exact info40)
theorem ret_msg3 {t : TypeId} {fn : Func} {p q r : Tmp} (h : fn.results = #[.cell p t, .tmp q, .tmp r]) (tmps : Array Value) (w : World) (g : Nat) (cs : Array Value) (v u : Value)
    (hp : tmps[p]? = some (.pointer (some ⟨g, 0, none⟩))) (hq : tmps[q]? = some v) (hr : tmps[r]? = some u) (hl : (loadVar t ⟨g, 0, none⟩).run Tryz.prog w = .ok (.agg cs) w) :
    (results fn tmps).run Tryz.prog w = .ok (.tuple #[.agg cs, v, u]) w := by
  simp [results, h, hp, hq, hr, asAddr, hl]
theorem load_msg {t : TypeId} {ops : Array Oper} {rest : List Oper} {op : Oper} {a : Act} {w : World} {Q : Exit → Act → World → Prop} (hgd : op.guard = none) (x : Operand) (ho : op.op = .load t x)
    (b : Nat) (cs : Array Value) (hx : a.eval x = .pointer (some ⟨b, 0, none⟩)) (hl : (loadVar t ⟨b, 0, none⟩).run Tryz.prog w = .ok (.agg cs) w)
    (h : wpList Tryz.prog ops Q rest (a.put op.dst (.agg cs)) w) : wpList Tryz.prog ops Q (op :: rest) a w :=
  wpList_plain hgd fun _ hK => by
    unfold Oper.wp execOp
    simp only [ho, hx, Instr.loadAt, Instr.sureAddr, Sem.run_bind, Sem.run_pure, Result.andThen_ok, hl]
    exact hK _ _ h
theorem run_store_one (w : World) (t b o : Nat) (v : Value) (hv : v.oneCell' = true) (hc : v.cells = #[v]) (hi : (Tryz.prog.info? t).map (·.size) = some 1) (ht : w.there b o 1) : (storeVar t ⟨b, o, none⟩ v).run Tryz.prog w = .ok () (w.setCells b o [v]) := by
  have := run_storeCells_cells (P := Tryz.prog) b o [v] 0 w (fun j hj => by simpa using (ht j (by simpa using hj)).1) (fun j hj => by simpa using (ht j (by simpa using hj)).2) (fun v' hv' => by simp at hv'; subst hv'; exact hv)
  obtain ⟨i, hi1, hi2⟩ := Option.map_eq_some_iff.1 hi
  simp only [Nat.add_zero] at this
  simp [storeVar, sizeOf, typeInfo, hi1, hc, hi2, this]
/-- A part goes into a message. -/
theorem store_part {ops : Array Oper} {rest : List Oper} {op : Oper} {a : Act} {w : World} {Q : Exit → Act → World → Prop} (hgd : op.guard = none) (t : TypeId) (x y : Operand) (ho : op.op = .store t x y)
    (b j : Nat) (v : Value) (tr : TypeId) (cs cs' : Array Value) (hv : v.oneCell' = true) (hc : v.cells = #[v]) (hi : (Tryz.prog.info? t).map (·.size) = some 1) (hj : j < cs.size) (hx : a.eval x = .pointer (some ⟨b, j, none⟩)) (hy : a.eval y = v)
    (hrow : w.heap[b]? = some (.cells cs tr (0, 0))) (hset : cs.setIfInBounds j v = cs')
    (h : ∀ W, Only b w W → W.heap[b]? = some (.cells cs' tr (0, 0)) → wpList Tryz.prog ops Q rest (a.put op.dst undef) W) : wpList Tryz.prog ops Q (op :: rest) a w :=
  wpList_plain hgd fun _ hK => by
    have ht := there_row hrow j 1 (by omega)
    unfold Oper.wp execOp
    simp only [ho, hx, hy, Instr.storeAt, Instr.sureAddr, Sem.run_bind, Sem.run_pure, Result.andThen_ok, run_store_one w t b j v hv hc hi ht]
    refine hK _ _ (h _ (only_setCells b _ j w) ?_)
    rw [setCells_heap b tr _ j w _ hrow]
    simp only [over]
    rw [hset]
theorem info23 : (Tryz.prog.info? 23).map (·.size) = some 1 := by kernel_rfl
theorem info22 : (Tryz.prog.info? 22).map (·.size) = some 1 := by kernel_rfl
def putM (w : World) (g : Nat) (cs : Array Value) : World := w.setCells g 0 cs.toList
theorem putM_only (w : World) (g : Nat) (cs : Array Value) : Only g w (putM w g cs) := only_setCells g cs.toList 0 w
theorem putM_row {w : World} {g : Nat} {t : TypeId} {cs cs' : Array Value} (hrow : w.heap[g]? = some (.cells cs t (0, 0))) (h : cs'.size = cs.size) : (putM w g cs').heap[g]? = some (.cells cs' t (0, 0)) := by
  unfold putM
  rw [setCells_heap g t cs'.toList 0 w cs hrow, over_whole cs cs' h]
theorem storeM_row {t : TypeId} (ht : (Tryz.prog.info? t).map (·.size) = some 4) {w : World} {g : Nat} {cs : Array Value} (A B C D : Value) (h1 : A.oneCell' = true) (h2 : B.oneCell' = true) (h3 : C.oneCell' = true) (h4 : D.oneCell' = true) (hrow : w.heap[g]? = some (.cells cs t (0, 0))) (hz : cs.size = 4) : (storeI t (.pointer (some ⟨g, 0, none⟩)) (.agg #[A, B, C, D])).run Tryz.prog w = .ok () (putM w g #[A, B, C, D]) :=
  run_storeAt_mid w g 0 t #[A, B, C, D] (there_row hrow 0 4 (by rw [hz]; exact Nat.le_refl _)) ht (msg_one A B C D h1 h2 h3 h4)
theorem store25_eq (x v : Value) : Instr.storeAt 25 x v = storeI 25 x v := rfl
theorem store40_eq (x v : Value) : Instr.storeAt 40 x v = storeI 40 x v := rfl
theorem heap_second (w : World) (o1 o2 : Obj) : ((w.alloc o1).alloc o2).heap[w.heap.size + 1]? = some o2 := by
  have := heap_alloc_new (w.alloc o1) o2
  rwa [show (w.alloc o1).heap.size = w.heap.size + 1 from by simp] at this
theorem heap_first (w : World) (o1 o2 : Obj) : ((w.alloc o1).alloc o2).heap[w.heap.size]? = some o1 := (Below.heap_alloc _ _ _ (by simp)).trans (heap_alloc_new w o1)
theorem add_block (X : Addr) (k : Nat) : (X.add k).block = X.block := by
  unfold Addr.add
  split <;> rfl
/-- No address of a block. -/
def NotIn (A : Option Addr) (g : Nat) : Prop := ∀ x, A = some x → x.block ≠ g
theorem HdsAt.only {w W : World} {A : Option Addr} {l : List HdV} {g : Nat} (h : HdsAt w A l) (hn : NotIn A g) (ho : Only g w W) : HdsAt W A l := fun h0 => by
  obtain ⟨q, o, e, hq, hc⟩ := h h0
  have hne : q ≠ g := hn _ e
  refine ⟨q, o, e, by rw [ho.size]; exact hq, fun j hj => ?_⟩
  have hb := ho.block q hne
  have hcell : ∀ i, W.cell? ⟨q, i, none⟩ = w.cell? ⟨q, i, none⟩ := fun i => by unfold World.cell?; simp only [hb]
  rw [hcell, hcell]
  exact hc j hj
theorem BytesAt.only {w W : World} {A : Option Addr} {l : List UInt8} {g : Nat} (h : BytesAt w A l) (hn : NotIn A g) (ho : Only g w W) : BytesAt W A l := fun h0 => by
  obtain ⟨q, o, e, hq, hc⟩ := h h0
  have hne : q ≠ g := hn _ e
  refine ⟨q, o, e, by rw [ho.size]; exact hq, fun j hj => ?_⟩
  have hb := ho.block q hne
  have hcell : ∀ i, W.cell? ⟨q, i, none⟩ = w.cell? ⟨q, i, none⟩ := fun i => by unfold World.cell?; simp only [hb]
  rw [hcell]
  exact hc j hj
/-- The bytes l are answered so. -/
def BtV (w : World) (v : Value) (l : List UInt8) : Prop := ∃ A c, v = .slice A l.length c ∧ BytesAt w A l ∧ (l.length = 0 → A = none ∧ c = 0 ∨ ∃ x, A = some x)
theorem BtV.below {w w' : World} {v : Value} {l : List UInt8} (h : BtV w v l) (hb : Below w.heap.size w w') : BtV w' v l := by
  obtain ⟨A, c, h1, h2, h3⟩ := h
  exact ⟨A, c, h1, h2.below hb (Nat.le_refl _), h3⟩
theorem BtV.nil (w : World) : BtV w (.slice none 0 0) [] := ⟨none, 0, rfl, fun h => absurd h (by simp), fun _ => .inl ⟨rfl, rfl⟩⟩
theorem BtV.str {w : World} {v : Value} {l : List UInt8} (h : BtV w v l) : (convert 23 9 v).run Tryz.prog w = .ok (.string (asS l)) w := by
  obtain ⟨A, c, rfl, h2, h3⟩ := h
  exact str_at h2 h3
theorem Down.at {w : World} {b : Nat} {v : Value} {l : List UInt8} (h : Down w b v l) : ∃ A c, v = .slice A l.length c ∧ BytesAt w A l ∧ (l.length = 0 → A = none ∧ c = 0 ∨ ∃ x, A = some x) ∧ ∀ g, g < b → NotIn A g := by
  rcases h with ⟨rfl, rfl⟩ | ⟨g, n, cap, rfl, h2⟩
  · exact ⟨none, 0, rfl, fun h => absurd h (by simp), fun _ => .inl ⟨rfl, rfl⟩, fun g _ x hx => by cases hx⟩
  · refine ⟨_, cap, by rw [h2.len], h2.bytes, fun _ => .inr ⟨_, rfl⟩, fun g' hg x hx => ?_⟩
    cases hx
    have := h2.ge
    show g ≠ g'
    omega
theorem OwnH.at {w : World} {b : Nat} {v : Value} {l : List HdV} (h : OwnH w b v l) : ∃ A c, v = .slice A l.length c ∧ HdsAt w A l ∧ ∀ g, g < b → NotIn A g := by
  have h1 := h.hds
  rcases h with ⟨rfl, rfl⟩ | ⟨g, cap, rfl, h2⟩
  · exact ⟨none, 0, rfl, fun h => absurd h (by simp), fun g _ x hx => by cases hx⟩
  · obtain ⟨A, c, e, hat⟩ := h1
    refine ⟨A, c, e, hat, fun g' hg x hx => ?_⟩
    cases e
    cases hx
    have := h2.ge
    show g ≠ g'
    omega
theorem Only.kept {w W : World} {g q : Nat} {o : Option Obj} (h : Only g w W) (hq : q ≠ g) (hr : w.heap[q]? = o) : W.heap[q]? = o := by rw [h.block q hq]; exact hr
theorem row_keep {V W : World} {g : Nat} {o : Obj} (h : Below V.heap.size V W) (hr : V.heap[g]? = some o) : W.heap[g]? = some o := (h.block g (Array.getElem?_eq_some_iff.1 hr).1).trans hr
theorem line_pos (b : List UInt8) (h : (lineM b).2.2 = 0) : 0 < (lineM b).2.1 := by
  unfold lineM at h ⊢
  split
  · simp
  · rename_i hn
    rw [if_neg hn] at h
    simp only at h
    split at h <;> cases h
/-! Sizes. -/
theorem line_le (b : List UInt8) : (lineM b).2.1 ≤ b.length ∧ (lineM b).1.length ≤ b.length := by
  unfold lineM
  split
  · rename_i h
    rw [List.length_take] at h
    refine ⟨by simp only; omega, ?_⟩
    have h1 := cr_le (b.take (findU [10] (b.take 4096)))
    rw [List.length_take] at h1
    simp only
    omega
  · exact ⟨Nat.zero_le _, by simp⟩
theorem oneV_len (l : List UInt8) : hdl (oneV l) ≤ l.length + 4 := by
  unfold oneV hdl
  split
  · simp [zeroH]
  · have h1 := trim_len (l.drop (findU [58] l + 1))
    rw [List.length_drop] at h1
    rename_i h
    have h2 : findU [58] l ≤ l.length := by
      rcases first_dec 58 l with hn | ⟨a, x, rfl, hn⟩
      · rw [find_miss 58 l hn]; exact Nat.le_refl _
      · rw [find_byte 58 a x hn]; simp
    simp only [List.length_take]
    omega
theorem lines_small : ∀ (f : Nat) (b : List UInt8) (n : Nat) (out : List HdV) (M : Nat), b.length + 4 ≤ M → (∀ h ∈ out, hdl h ≤ M) → ∀ h ∈ (linesH f b n out).1, hdl h ≤ M
  | 0, b, n, out, M, _, _ => fun h hh => by simp [linesH] at hh
  | f + 1, b, n, out, M, hM, ho => by
    rcases first_dec 10 b with h | ⟨a, x, rfl, h⟩
    · rw [lines_none f b n out h]; intro h hh; simp at hh
    · have hl : (a ++ 10 :: x).length = a.length + 1 + x.length := by rw [List.length_append, List.length_cons]; omega
      by_cases h1 : 8192 < n + a.length + 1
      · rw [lines_far f a x n out h h1]; intro h hh; simp at hh
      · by_cases h2 : crH a = []
        · rw [lines_end f a x n out h h1 h2]; exact ho
        · cases h3 : oneB (crH a) with
          | false => rw [lines_bad f a x n out h h1 h2 h3]; intro h hh; simp at hh
          | true =>
            by_cases h4 : out.length = 64
            · rw [lines_many f a x n out h h1 h2 h3 h4]; intro h hh; simp at hh
            · rw [lines_on f a x n out h h1 h2 h3 h4]
              refine lines_small f x (n + a.length + 1) (out ++ [oneV (crH a)]) M (by omega) fun h hh => ?_
              rcases List.mem_append.1 hh with hh | hh
              · exact ho h hh
              · rw [List.mem_singleton.1 hh]
                have h5 := oneV_len (crH a)
                have h6 := cr_le a
                omega
theorem parse_small (b : List UInt8) (hb : b.length ≤ 999996) : SmallH (parseH b).1 := fun k hk => by
  have := lines_small (b.length + 1) b 0 [] 1000000 (by omega) (fun h hh => by simp at hh)
  refine this _ ?_
  rw [List.getD_eq_getElem?_getD, List.getElem?_eq_getElem hk]
  exact List.getElem_mem hk
theorem parse_few (b : List UInt8) : (parseH b).1.length ≤ 64 := lines_out _ b 0 [] (by simp)
theorem line_ex (r : List UInt8) : ∃ S N E, LineC r S N E := by
  rcases line_dec r with h | ⟨a, x, t, h1, h2, h3, h4⟩
  · exact ⟨_, _, _, line_short r h⟩
  · subst h2
    by_cases hc : a.getLastD 0 = 13
    · obtain ⟨s, rfl, _⟩ := last13 a hc
      have h5 : (10 : UInt8) ∉ s := fun h => h3 (List.mem_append.2 (.inl h))
      rw [List.length_append, List.length_singleton] at h4
      rw [show (s ++ [13]) ++ 10 :: t = s ++ 13 :: 10 :: t from by simp]
      by_cases hz : 0 ≤ szC s
      · exact ⟨_, _, _, line_at s t h5 (by omega) hz⟩
      · exact ⟨_, _, _, line_neg s t h5 (by omega) (by omega)⟩
    · exact ⟨_, _, _, line_bad a t h3 h4 hc⟩
theorem dec_le : ∀ (f : Nat) (b : List UInt8) (at0 : Nat) (body : List UInt8), (decC f b at0 body).2.1 ≤ at0 + b.length
  | 0, b, at0, body => Nat.zero_le _
  | f + 1, b, at0, body => by
    obtain ⟨S, N, E, hl⟩ := line_ex b
    by_cases hE : E = 0
    · obtain ⟨h1, h2, h3, h4⟩ := hl.some hE
      rw [h4]
      have hd : (b.drop N).length = b.length - N := List.length_drop
      unfold stepC
      by_cases hS : S = 0
      · rw [if_pos hS]
        split
        · exact Nat.zero_le _
        · have := parse_le (b.drop N)
          simp only
          omega
      · rw [if_neg hS]
        split
        · exact Nat.zero_le _
        · split
          · exact Nat.zero_le _
          · rename_i hk
            have hk2 := chk_ok (b.drop N) S (Decidable.of_not_not hk)
            have := dec_le f ((b.drop N).drop (S + 2)) (at0 + N + (S + 2)) (body ++ (b.drop N).take S)
            rw [List.length_drop] at this
            omega
    · rw [(hl.none hE).2.2]
      exact Nat.zero_le _
theorem body_fit (r : List UInt8) (l : List HdV) (rest : Bool) : (bodyM r l rest).2.1 ≤ r.length := by
  unfold bodyM
  split
  · split
    · exact Nat.zero_le _
    · have := dec_le (r.length + 1) r 0 []
      unfold decodeC
      omega
  · split
    · exact Nat.zero_le _
    · split
      · exact Nat.zero_le _
      · split
        · exact Nat.zero_le _
        · simp only; omega
theorem body_le (b : List UInt8) (k q : Nat) (l : List HdV) (rest : Bool) : (bodyM (b.drop (k + q)) l rest).2.1 ≤ b.length := by
  have := body_fit (b.drop (k + q)) l rest
  rw [List.length_drop] at this
  omega
end Go.Proofs.YtclonnpglikddaaGreatDoor
