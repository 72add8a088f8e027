/-
  Lists of strings and of numbers: as arguments, as rows of the call's own; append of one, of many.
-/
import Derived.Test.YtjjhidojialjoaaDoorN6
import Derived.ProofKit
import Derived.OpenShut
import Derived.SliceStrings
import Derived.SizedLaws
import Derived.Deep.AppendLies
namespace Go.Proofs.YtjjhidojialjoaaDoor
open Go.ChangeShapes Go.WideShapes Go.ChangeAt Go.RowKit

/-- lists of bytes as strings, and back -/
def BL (l : List (List UInt8)) : List ByteArray := l.map fun x => ⟨x.toArray⟩
def DL (xs : List ByteArray) : List (List UInt8) := xs.map (·.data.toList)
def SV (l : List (List UInt8)) : List Value := l.map fun x => .string ⟨x.toArray⟩
theorem BL_length (l : List (List UInt8)) : (BL l).length = l.length := List.length_map _
theorem DL_length (l : List ByteArray) : (DL l).length = l.length := List.length_map _
theorem SV_length (l : List (List UInt8)) : (SV l).length = l.length := List.length_map _
theorem DL_BL (l : List (List UInt8)) : DL (BL l) = l := by
  unfold DL BL
  rw [List.map_map]
  refine (List.map_congr_left fun x _ => ?_).trans (List.map_id _)
  simp
theorem BL_DL (l : List ByteArray) : BL (DL l) = l := by
  unfold DL BL
  rw [List.map_map]
  refine (List.map_congr_left fun x _ => ?_).trans (List.map_id _)
  exact bytes_eta x
theorem BL_inj {l r : List (List UInt8)} (h : BL l = BL r) : l = r := by rw [← DL_BL l, ← DL_BL r, h]
theorem DL_inj {l r : List ByteArray} (h : DL l = DL r) : l = r := by rw [← BL_DL l, ← BL_DL r, h]
theorem SV_at (l : List (List UInt8)) (j : Nat) (x : ByteArray) (h : (BL l)[j]? = some x) : (SV l)[j]? = some (.string x) := by
  unfold BL at h
  unfold SV
  rw [List.getElem?_map] at h ⊢
  cases hl : l[j]? with
  | none => rw [hl] at h; cases h
  | some y => rw [hl] at h; simp at h; rw [← h]; rfl
theorem SV_append (l r : List (List UInt8)) : SV (l ++ r) = SV l ++ SV r := List.map_append
theorem SV_DL (xs : List ByteArray) : SV (DL xs) = xs.map Value.string := by
  unfold SV DL
  rw [List.map_map]
  refine List.map_congr_left fun x _ => ?_
  show Value.string ⟨x.data.toList.toArray⟩ = _
  rw [bytes_eta]
theorem SV_BL (l : List (List UInt8)) : (BL l).map Value.string = SV l := by rw [← SV_DL, DL_BL]
theorem SV_snoc (l : List (List UInt8)) (a : ByteArray) : SV (l ++ [a.data.toList]) = SV l ++ [.string a] := by
  rw [SV_append]
  show _ ++ [Value.string ⟨a.data.toList.toArray⟩] = _
  rw [bytes_eta]
theorem DL_snoc (l : List ByteArray) (a : ByteArray) : DL (l ++ [a]) = DL l ++ [a.data.toList] := List.map_append

/-! ### slices that read as strings -/
def Rd (w : World) (v : Value) (xs : List ByteArray) : Prop :=
  (xs = [] ∧ ∃ a c, v = .slice a 0 c) ∨
  (∃ b o c, v = .slice (some ⟨b, o, none⟩) xs.length c ∧ xs.length ≤ c ∧ b < w.heap.size ∧ ∀ (j : Nat) x, xs[j]? = some x → w.cell? ⟨b, o + j, none⟩ = some (.string x))
theorem Rd.below {w w' : World} {v : Value} {xs : List ByteArray} (h : Rd w v xs) (hb : Below w.heap.size w w') : Rd w' v xs := by
  rcases h with h | ⟨b, o, c, hv, hc, hlt, hcell⟩
  · exact .inl h
  · exact .inr ⟨b, o, c, hv, hc, Nat.lt_of_lt_of_le hlt hb.size, fun j x hj => (hb.cell (p := ⟨b, o + j, none⟩) hlt).trans (hcell j x hj)⟩
theorem Rd.shape {w : World} {v : Value} {xs : List ByteArray} (h : Rd w v xs) : ∃ a c, v = .slice a xs.length c := by
  rcases h with ⟨rfl, a, c, rfl⟩ | ⟨b, o, c, rfl, _⟩
  · exact ⟨a, c, rfl⟩
  · exact ⟨_, _, rfl⟩
theorem lt_of_heap {w : World} {g : Nat} {o : Obj} (h : w.heap[g]? = some o) : g < w.heap.size := by
  rcases Nat.lt_or_ge g w.heap.size with k | k
  · exact k
  · rw [Array.getElem?_eq_none k] at h; cases h

/-- a row of strings of the call's own -/
def OwnS (w : World) (base : Nat) (v : Value) (l : List (List UInt8)) : Prop := w.ownsRow base 9 1 v l.length (SV l)
theorem rd_own {w : World} {base : Nat} {v : Value} {l : List (List UInt8)} (h : OwnS w base v l) : Rd w v (BL l) := by
  have h' : w.ownsRow base 9 1 v l.length (SV l) := h
  rcases h.2 with ⟨hv, hn⟩ | ⟨g, cap, cur, hv, hg, hh, hc, hm, hsz, htk⟩
  · exact .inl ⟨by rw [List.length_eq_zero_iff.1 hn]; rfl, none, 0, hv⟩
  · subst hv
    refine .inr ⟨g, 0, cap, by rw [BL_length], by rw [BL_length]; exact hc, lt_of_heap hh, fun j x hj => ?_⟩
    have hjl : j < l.length := by
      rcases Nat.lt_or_ge j l.length with k | k
      · exact k
      · rw [List.getElem?_eq_none (by rw [BL_length]; exact k)] at hj; cases hj
    rw [Nat.zero_add, h'.cellAt j (by omega), SV_at l j x hj]
theorem OwnS.nil (w : World) (base : Nat) : OwnS w base (.slice none 0 0) [] := World.ownsRow_nil _ _ _ _
theorem OwnS.ge {w : World} {base : Nat} {v : Value} {l : List (List UInt8)} (h : OwnS w base v l) : ∀ k, v.ownBlock = some k → base ≤ k := by
  intro k hk
  rcases h.2 with ⟨hv, _⟩ | ⟨g, cap, cur, hv, hg, _⟩
  · subst hv; cases hk
  · subst hv; cases hk; exact hg
theorem OwnS.shape {w : World} {base : Nat} {v : Value} {l : List (List UInt8)} (h : OwnS w base v l) : ∃ a c, v = .slice a l.length c := by
  rcases h.2 with ⟨hv, hn⟩ | ⟨g, cap, cur, hv, _⟩
  · exact ⟨_, _, by rw [hv, hn]⟩
  · exact ⟨_, _, hv⟩
theorem OwnS.stays {w w' : World} {base : Nat} {v : Value} {l : List (List UInt8)} (h : OwnS w base v l) (hb : Below w.heap.size w w') : OwnS w' base v l := by
  refine ⟨h.1, ?_⟩
  rcases h.2 with h | ⟨g, cap, cur, hv, hg, hh, r⟩
  · exact .inl h
  · exact .inr ⟨g, cap, cur, hv, hg, (hb.block g (lt_of_heap hh)).trans hh, r⟩
theorem OwnS.mono {w : World} {base base' : Nat} {v : Value} {l : List (List UInt8)} (h : OwnS w base v l) (hb : base' ≤ base) : OwnS w base' v l := by
  refine ⟨h.1, ?_⟩
  rcases h.2 with h | ⟨g, cap, cur, hv, hg, hh, r⟩
  · exact .inl h
  · exact .inr ⟨g, cap, cur, hv, Nat.le_trans hb hg, hh, r⟩
theorem OwnS.new (w : World) (l : List (List UInt8)) (hl : l.length * 16 ≤ 281474976710656) :
    OwnS (w.alloc (.cells (SV l).toArray 9)) w.heap.size (.slice (some ⟨w.heap.size, 0, none⟩) l.length l.length) l :=
  ⟨by rw [SV_length, Nat.mul_one], .inr ⟨w.heap.size, l.length, (SV l).toArray, rfl, Nat.le_refl _, heap_alloc_new _ _, Nat.le_refl _, by unfold maxLen; omega, by simp [SV_length], by rw [List.toList_toArray, Nat.mul_one]; exact List.take_of_length_le (Nat.le_of_eq (SV_length l))⟩⟩

theorem laidOut : laidOutB Tryd.prog = true := by kernel_rfl
theorem addr_none {w : World} {a : Addr} {u : Value} (h : w.cell? (a.add 0) = some u) : ∃ b o, a = ⟨b, o, none⟩ ∧ b < w.heap.size := by
  have e : a.add 0 = a := by simp [Addr.add]
  rw [e] at h
  obtain ⟨b, o, spot⟩ := a
  have hspot : spot = none := World.cell?_spot h
  subst hspot
  refine ⟨b, o, rfl, ?_⟩
  rcases Nat.lt_or_ge b w.heap.size with k | k
  · exact k
  · have hn : w.heap[b]? = none := Array.getElem?_eq_none k
    simp [World.cell?, hn] at h

theorem open_rd {H : Type} {enc : TypeId × Value → H} {W : World} {v : Value} {d : DataW H} {p : List MemPlace}
    (hv : ∃ a len cap, v = .slice a len cap) (h : DataW.Trod enc Tryd.prog W 0 (fun _ => true) true 22 v d p) :
    ∃ xs : List ByteArray, Rd W v xs ∧ (∀ x ∈ xs, x.size ≤ maxLen) ∧ ((xs = [] ∧ d = .nil) ∨ ∃ sp, d = .slice (strs xs) sp) ∧ (v = .slice none 0 0 ∨ ∃ ad n c, v = .slice (some ad) n c) := by
  obtain ⟨a0, len0, cap0, rfl⟩ := hv
  obtain ⟨fuel, hf⟩ := h
  have hcell : Tryd.prog.cellsOf 9 = 1 := by kernel_rfl
  rcases open_strings Tryd.underlying22 Tryd.underlying9 hcell hf with ⟨hcs, hx⟩ | ⟨a, len, cap, ss, hcs, _, hl, hm, hss, hx, hcl, hws⟩
  · simp [Value.cells] at hcs hx
    obtain ⟨rfl, rfl, rfl⟩ := hcs
    obtain ⟨rfl, rfl⟩ := hx
    exact ⟨[], .inl ⟨rfl, none, 0, rfl⟩, by simp, .inl ⟨rfl, rfl⟩, .inl rfl⟩
  · simp [Value.cells] at hcs hss
    obtain ⟨rfl, rfl, rfl⟩ := hcs
    obtain ⟨hd, hp⟩ := Prod.mk.inj hx
    refine ⟨ss.take len0, ?_, fun x hx => hws x (List.mem_of_mem_take hx), .inr ⟨_, hd⟩, .inr ⟨_, _, _, rfl⟩⟩
    by_cases h0 : len0 = 0
    · subst h0
      exact .inl ⟨by simp, some a, cap0, rfl⟩
    · obtain ⟨b, o, rfl, hb⟩ := addr_none (hcl 0 (by omega))
      have hlen : (ss.take len0).length = len0 := by rw [List.length_take]; omega
      refine .inr ⟨b, o, cap0, by rw [hlen], by rw [hlen]; exact hl, hb, fun j x hj => ?_⟩
      have hj' : j < len0 := by
        rcases Nat.lt_or_ge j len0 with k | k
        · exact k
        · rw [List.getElem?_eq_none (by rw [hlen]; exact k)] at hj; cases hj
      have := hcl j (by omega)
      rw [List.getElem?_take, if_pos hj'] at hj
      rw [List.getD_eq_getElem?_getD, hj] at this
      rw [Go.WideShapes.add_plain] at this
      exact this

theorem strs_length {H : Type} (xs : List ByteArray) : (strs (H := H) xs).length = xs.length := by
  induction xs with
  | nil => rfl
  | cons x r ih => show (_ :: strs r).length = _; rw [List.length_cons, List.length_cons, ih]
theorem bulk_strs {H : Type} (ss : List ByteArray) : Rows.uptoBulkAll (strs (H := H) ss) = (DL ss).flatten.length + ss.length := by
  induction ss with
  | nil => rfl
  | cons s r ih =>
    have e : Rows.uptoBulkAll (strs (H := H) (s :: r)) = (s.data.toList.length + 1) + Rows.uptoBulkAll (strs (H := H) r) := by
      show Rows.uptoBulkAll (DataW.lit (.string s.data.toList) :: strs r) = _
      simp only [Rows.uptoBulkAll, Rows.uptoBulk]
    rw [e, ih]
    show _ = (s.data.toList ++ (DL r).flatten).length + (r.length + 1)
    rw [List.length_append]
    omega
/-- how many strings there are: by the reach, by the bulk -/
theorem rd_sized {H : Type} {d : DataW H} {xs : List ByteArray} {ts : List TypeId} {ds : List (DataW H)} {j : Nat} (h : (DataW.weightsEach Tryd.prog ts ds).all (· ≤ reachBytes) = true)
    (ht : ts[j]? = some 22) (hd : ds[j]? = some d) (hx : (xs = [] ∧ d = .nil) ∨ ∃ sp, d = .slice (strs xs) sp) : xs.length * 16 ≤ 140737488351232 := by
  rcases hx with ⟨rfl, _⟩ | ⟨sp, rfl⟩
  · simp
  · have h1 := sized_slice h ht hd Tryd.underlying22
    have h2 : Tryd.prog.bytesOf 9 = 16 := by kernel_rfl
    rw [h2, strs_length] at h1
    have h3 : reachBytes = 140737488351232 := by decide
    omega
theorem rd_bulk {H : Type} {d : DataW H} {xs : List ByteArray} (hx : (xs = [] ∧ d = .nil) ∨ ∃ sp, d = .slice (strs xs) sp) : (DL xs).flatten.length + xs.length ≤ Rows.uptoBulk d := by
  rcases hx with ⟨rfl, _⟩ | ⟨sp, rfl⟩
  · simp [DL]
  · simp only [Rows.uptoBulk]
    rw [bulk_strs]
    omega
theorem SV_one_cell (l : List (List UInt8)) : ∀ u ∈ SV l, u.oneCell' = true := by
  intro u hu
  obtain ⟨x, _, rfl⟩ := List.mem_map.1 hu
  rfl
theorem src_cells {w : World} {ad : Addr} {n c : Nat} {xs : List ByteArray} (h : Rd w (.slice (some ad) n c) xs) :
    n = xs.length ∧ ∀ j u, (SV (DL xs))[j]? = some u → w.cell? (ad.add j) = some u := by
  rcases h with ⟨rfl, a, c', hv⟩ | ⟨b, o, c', hv, hc, hb, hX⟩
  · cases hv
    exact ⟨rfl, fun j u hj => by simp [SV, DL] at hj⟩
  · cases hv
    refine ⟨rfl, fun j u hj => ?_⟩
    rw [SV_DL, List.getElem?_map] at hj
    cases hx : xs[j]? with
    | none => rw [hx] at hj; cases hj
    | some x =>
      rw [hx] at hj
      simp at hj
      subst hj
      rw [Go.WideShapes.add_plain]
      exact hX j x hx
theorem Tryd.infoStr : (Tryd.prog.info? 9).map (fun i => (i.zero, i.size, i.bytes)) = some (some (.string ⟨#[]⟩), 1, 16) := by kernel_rfl
theorem Tryd.infoInt : (Tryd.prog.info? 3).map (fun i => (i.zero, i.size, i.bytes)) = some (some (.int .i64 0), 1, 8) := by kernel_rfl
theorem run_append_str (w : World) (ty : TypeId) (B : Nat) (v : Value) (a : List (List UInt8)) (hown : OwnS w B v a) (ad : Addr) (c : Nat) (x : ByteArray) (hx : w.cell? (ad.add 0) = some (.string x)) (hfit : (a.length + 1) * 16 ≤ 140737488355328) (hB : B ≤ w.heap.size) :
    ∃ v' w', (Builtin.append_ #[22, 22] ty #[v, .slice (some ad) 1 c]).run Tryd.prog w = .ok v' w' ∧ OwnS w' B v' (a ++ [x.data.toList]) ∧ w.grownBy w' v.ownBlock ∧ ∀ k, v'.ownBlock = some k → v.ownBlock = some k ∨ w.heap.size ≤ k := by
  obtain ⟨i0, hi, hz0, hz1, hz2⟩ := info_parts Tryd.infoStr
  have hnews : ∀ j u, [Value.string x][j]? = some u → w.cell? (ad.add j) = some u := by
    intro j u hj
    match j, hj with
    | 0, hj => simp at hj; subst hj; exact hx
  have h1 : ∀ u ∈ [Value.string x], u.oneCell' = true := by intro u hu; simp at hu; subst hu; rfl
  have h63 : a.length + 1 ≤ maxLen := by unfold maxLen; omega
  obtain ⟨v', w', hr, h2, h3, _⟩ := run_append_own (P := Tryd.prog) w B 22 ty 9 i0 (.string ⟨#[]⟩) 1 16 Tryd.underlying22 hi hz0 hz1 hz2 rfl (by decide) v a.length (SV a) hown ad 1 c [.string x] rfl hnews h1 h63 hfit hB
  refine ⟨v', w', hr, ?_, h3, ?_⟩
  · show w'.ownsRow _ _ _ _ _ _
    rw [SV_snoc, List.length_append]; exact h2
  · intro k hk
    have hl1 : [Value.string x].length = 1 * i0.size := by rw [hz1]; rfl
    rcases hown.2 with ⟨rfl, hn⟩ | ⟨g, cap, cur, rfl, hbg, hg, hnc, hcm, hcs, htake⟩
    · have hr2 := run_append_nil (P := Tryd.prog) w 22 ty 9 i0 (.string ⟨#[]⟩) Tryd.underlying22 hi hz0 ad 1 c [.string x] hl1 hnews (by omega) (by omega) (by rw [hz2]; omega)
      rw [hr] at hr2
      injection hr2 with e1 e2
      subst e1
      cases hk
      exact .inr (Nat.le_refl _)
    · by_cases hroom : a.length + 1 ≤ cap
      · have hr2 := run_append_room (P := Tryd.prog) w 22 ty 9 i0 Tryd.underlying22 hi g a.length cap cur hg ad 1 c [.string x] hl1 hnews h1 hroom (by rw [hz1, hcs]; simp; omega)
        rw [hr] at hr2
        injection hr2 with e1 e2
        subst e1
        exact .inl hk
      · have hol : (SV a).length = a.length * i0.size := by rw [hz1]; exact hown.1
        have hr2 := run_append_grow (P := Tryd.prog) w 22 ty 9 i0 (.string ⟨#[]⟩) Tryd.underlying22 hi hz0 ⟨g, 0, none⟩ a.length cap (SV a) hol (World.ownsRow.cells hown (g := g) rfl) ad 1 c [.string x] hl1 hnews (by omega) (by omega) (growslice_fits (by omega) (by rw [hz2]; exact hfit))
        rw [hr] at hr2
        injection hr2 with e1 e2
        subst e1
        cases hk
        exact .inr (Nat.le_refl _)

theorem wpList_append_str {w : World} {ops : Array Oper} {rest : List Oper} {o : Oper} {a : Act} {Q : Exit → Act → World → Prop} (hgd : o.guard = none) (s x : Operand)
    (ho : o.op = .call { callee := .builtin .append, args := #[s, x], argTypes := #[22, 22] }) (B : Nat) (v : Value) (l : List (List UInt8)) (hs : a.eval s = v) (hown : OwnS w B v l)
    (ad : Addr) (c : Nat) (y : ByteArray) (hx : a.eval x = .slice (some ad) 1 c) (hy : w.cell? (ad.add 0) = some (.string y)) (hfit : (l.length + 1) * 16 ≤ 140737488355328) (hB : B ≤ w.heap.size)
    (h : ∀ v' w', OwnS w' B v' (l ++ [y.data.toList]) → w.grownBy w' v.ownBlock → (∀ k, v'.ownBlock = some k → v.ownBlock = some k ∨ w.heap.size ≤ k) → wpList Tryd.prog ops Q rest (a.put o.dst v') w') : wpList Tryd.prog ops Q (o :: rest) a w :=
  wpList_plain hgd fun _ hK => by
    obtain ⟨v', w', hr, h2, h3, h4⟩ := run_append_str w o.type B v l hown ad c y hy hfit hB
    unfold Oper.wp execOp
    simp only [ho, resolve, invoke, builtin, Sem.run_bind, Sem.run_pure, Result.andThen_ok, List.map_toArray, List.map_cons, List.map_nil, hs, hx, hr]
    exact hK _ _ (h v' w' h2 h3 h4)

/-! ### rows of numbers -/
def intC (l : List Nat) : List Value := l.map fun (n : Nat) => Value.int .i64 n
theorem intC_length (l : List Nat) : (intC l).length = l.length := List.length_map _
theorem intC_append (l r : List Nat) : intC (l ++ r) = intC l ++ intC r := List.map_append
theorem int_cells (l : List Nat) : ∀ u ∈ intC l, u.oneCell' = true := by
  intro u hu
  obtain ⟨x, _, rfl⟩ := List.mem_map.1 hu
  rfl
/-- a row of numbers of the call's own -/
def OwnI (w : World) (B : Nat) (v : Value) (l : List Nat) : Prop := w.ownsRow B 3 1 v l.length (intC l)
theorem OwnI.nil (w : World) (B : Nat) : OwnI w B (.slice none 0 0) [] := World.ownsRow_nil _ _ _ _
theorem OwnI.stays {w w' : World} {B : Nat} {v : Value} {l : List Nat} (h : OwnI w B v l) (hb : Below w.heap.size w w') : OwnI w' B v l := own_stays h hb
/-- a list of numbers reads so -/
def RdI (w : World) (v : Value) (l : List Nat) : Prop :=
  (l = [] ∧ ∃ a c, v = .slice a 0 c) ∨
  (∃ b o c, v = .slice (some ⟨b, o, none⟩) l.length c ∧ l.length ≤ c ∧ b < w.heap.size ∧ ∀ (j n : Nat), l[j]? = some n → w.cell? ⟨b, o + j, none⟩ = some (.int .i64 n))
theorem RdI.below {w w' : World} {v : Value} {l : List Nat} (h : RdI w v l) (hb : Below w.heap.size w w') : RdI w' v l := by
  rcases h with h | ⟨b, o, c, hv, hc, hlt, hcell⟩
  · exact .inl h
  · exact .inr ⟨b, o, c, hv, hc, Nat.lt_of_lt_of_le hlt hb.size, fun j x hj => (hb.cell (p := ⟨b, o + j, none⟩) hlt).trans (hcell j x hj)⟩
theorem OwnI.rd {w : World} {B : Nat} {v : Value} {l : List Nat} (h : OwnI w B v l) : RdI w v l := by
  have h' := h
  rcases h.2 with ⟨hv, hn⟩ | ⟨g, cap, cur, hv, hg, hh, hcp, _⟩
  · exact .inl ⟨List.length_eq_zero_iff.1 hn, none, 0, hv⟩
  · subst hv
    refine .inr ⟨g, 0, cap, rfl, hcp, lt_of_heap hh, fun j n hj => ?_⟩
    have hjl : j < l.length := by
      rcases Nat.lt_or_ge j l.length with k | k
      · exact k
      · rw [List.getElem?_eq_none k] at hj; cases hj
    rw [Nat.zero_add, World.ownsRow.cellAt h' j (by omega)]
    simp [intC, hj]

/-! ### append of a whole list -/
/-- where a list's values lie -/
def Src (w : World) (u : Value) (news : List Value) : Prop := (news = [] ∧ u = .slice none 0 0) ∨ ∃ ad c, u = .slice (some ad) news.length c ∧ ∀ (j : Nat) x, news[j]? = some x → w.cell? (ad.add j) = some x
theorem Rd.src {w : World} {v : Value} {xs : List ByteArray} (h : Rd w v xs) (hsh : v = .slice none 0 0 ∨ ∃ ad n c, v = .slice (some ad) n c) : Src w v (SV (DL xs)) := by
  rcases hsh with rfl | ⟨ad, n, c, rfl⟩
  · rcases h with ⟨rfl, _⟩ | ⟨b, o, c, hv, _⟩
    · exact .inl ⟨rfl, rfl⟩
    · cases hv
  · obtain ⟨h1, h2⟩ := src_cells h
    exact .inr ⟨ad, c, by rw [SV_length, DL_length, h1], h2⟩
theorem own_src {w : World} {B n : Nat} {e : TypeId} {v : Value} {xs : List Value} (h : w.ownsRow B e 1 v n xs) : Src w v xs := by
  have hl := h.1
  rcases h.2 with ⟨hv, hn⟩ | ⟨g, cap, cur, hv, hg, hh, hcp, _⟩
  · exact .inl ⟨List.length_eq_zero_iff.1 (by rw [hl, hn]), hv⟩
  · subst hv
    exact .inr ⟨⟨g, 0, none⟩, cap, by rw [hl, Nat.mul_one], World.ownsRow.cells h (g := g) rfl⟩
theorem Src.later {w w' : World} {u : Value} {news : List Value} (h : Src w u news) (hb : Below w.heap.size w w') : Src w' u news := by
  rcases h with h | ⟨ad, c, hu, hx⟩
  · exact .inl h
  · refine .inr ⟨ad, c, hu, fun j x hj => ?_⟩
    have h1 := hx j x hj
    have hlt : (ad.add j).block < w.heap.size := World.block_lt_of_cell? w _ h1
    exact (hb.cell hlt).trans h1
theorem run_append_all {w : World} {t e : TypeId} {z : Value} {bytes : Nat} (hu : Tryd.prog.underlying t = some (.slice e)) (hinf : (Tryd.prog.info? e).map (fun i => (i.zero, i.size, i.bytes)) = some (some z, 1, bytes)) (hzc : z.cells.size = 1) (hby2 : bytes ≤ 16)
    (ty : TypeId) (B : Nat) (v : Value) (n : Nat) (xs : List Value) (hown : w.ownsRow B e 1 v n xs) (u : Value) (news : List Value) (hs : Src w u news) (h1 : ∀ x ∈ news, x.oneCell' = true) (hfit : n + news.length ≤ 8000000000000) (hB : B ≤ w.heap.size) :
    ∃ v' w', (Builtin.append_ #[t, t] ty #[v, u]).run Tryd.prog w = .ok v' w' ∧ w'.ownsRow B e 1 v' (n + news.length) (xs ++ news) ∧ w.grownBy w' v.ownBlock := by
  obtain ⟨i0, hi, hz0, hz1, hz2⟩ := info_parts hinf
  rcases hs with ⟨rfl, rfl⟩ | ⟨ad, c, rfl, hx⟩
  · have hr := run_append_owned_none (P := Tryd.prog) (w := w) B t ty e i0 1 hu hi v n xs hown
    refine ⟨_, _, hr, ?_, rfl, rfl, rfl, Nat.le_refl _, fun _ _ _ => rfl⟩
    simpa using hown
  · obtain ⟨v', w', hr, h2, h3, _⟩ := run_append_own (P := Tryd.prog) w B t ty e i0 z 1 bytes hu hi hz0 hz1 hz2 (by first | exact hzc | simpa using hzc) (by omega) v n xs hown ad news.length c news (by rw [Nat.mul_one]) hx h1 (by unfold maxLen; omega) (by have := Nat.mul_le_mul hfit hby2; omega) hB
    exact ⟨v', w', hr, h2, h3⟩
theorem wpList_append_all {w : World} {ops : Array Oper} {rest : List Oper} {o : Oper} {a : Act} {Q : Exit → Act → World → Prop} (hgd : o.guard = none) (s x : Operand) (t e : TypeId)
    (ho : o.op = .call { callee := .builtin .append, args := #[s, x], argTypes := #[t, t] }) {z : Value} {bytes : Nat} (hu : Tryd.prog.underlying t = some (.slice e)) (hinf : (Tryd.prog.info? e).map (fun i => (i.zero, i.size, i.bytes)) = some (some z, 1, bytes)) (hzc : z.cells.size = 1) (hby2 : bytes ≤ 16)
    (B : Nat) (v : Value) (n : Nat) (xs : List Value) (hs : a.eval s = v) (hown : w.ownsRow B e 1 v n xs) (u : Value) (news : List Value) (hx : a.eval x = u) (hsrc : Src w u news) (h1 : ∀ x ∈ news, x.oneCell' = true) (hfit : n + news.length ≤ 8000000000000) (hB : B ≤ w.heap.size)
    (h : ∀ v' w', w'.ownsRow B e 1 v' (n + news.length) (xs ++ news) → w.grownBy w' v.ownBlock → wpList Tryd.prog ops Q rest (a.put o.dst v') w') : wpList Tryd.prog ops Q (o :: rest) a w :=
  wpList_plain hgd fun _ hK => by
    obtain ⟨v', w', hr, h2, h3⟩ := run_append_all hu hinf hzc hby2 o.type B v n xs hown u news hsrc h1 hfit hB
    unfold Oper.wp execOp
    simp only [ho, resolve, invoke, builtin, Sem.run_bind, Sem.run_pure, Result.andThen_ok, List.map_toArray, List.map_cons, List.map_nil, hs, hx, hr]
    exact hK _ _ (h v' w' h2 h3)
end Go.Proofs.YtjjhidojialjoaaDoor
