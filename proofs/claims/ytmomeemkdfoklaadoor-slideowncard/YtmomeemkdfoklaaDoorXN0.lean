/-
  Plain laws on the keys of lines (which blanks and letters count) and on the numbers of keys: no program, no world.
-/
import Derived.Test.YtmomeemkdfoklaaDoorXPl
namespace Go.Proofs.YtmomeemkdfoklaaDoor.In
open Go

def bl (c : UInt8) : Bool := c == 9 || c == 11 || c == 12 || c == 13 || c == 32
/-- without the blanks at its end -/
def tl (l : List UInt8) : List UInt8 := (l.reverse.dropWhile bl).reverse
/-- without blanks -/
def cl (l : List UInt8) : List UInt8 := l.filter fun c => !bl c
/-- whether the last byte is a blank -/
def lb (l : List UInt8) : Bool := (l.getLast?.map bl).getD false
/-- one byte 32 for each run of blanks -/
def sqA : Bool → List UInt8 → List UInt8
  | _, [] => []
  | p, c :: r => if bl c = true then (if p = true then sqA true r else 32 :: sqA true r) else c :: sqA false r
def sq (l : List UInt8) : List UInt8 := sqA false l
def lo (c : UInt8) : UInt8 := if 65 ≤ c.toNat ∧ c.toNat ≤ 90 then c + 32 else c
def lw (l : List UInt8) : List UInt8 := l.map lo

theorem byte_all (p : UInt8 → Bool) (h : ∀ i : Fin 256, p (UInt8.ofNat i.val) = true) (c : UInt8) : p c = true := by
  have := h ⟨c.toNat, c.toNat_lt⟩
  simpa using this
theorem bl_lo (c : UInt8) : bl (lo c) = bl c := by
  have := byte_all (fun c => bl (lo c) == bl c) (by decide +kernel) c
  exact eq_of_beq this
theorem lo_lo (c : UInt8) : lo (lo c) = lo c := by
  have := byte_all (fun c => lo (lo c) == lo c) (by decide +kernel) c
  exact eq_of_beq this
theorem lo_ten (c : UInt8) (h : lo c = 10) : c = 10 := by
  have := byte_all (fun c => !(lo c == 10) || c == 10) (by decide +kernel) c
  simp only [h, beq_self_eq_true, Bool.not_true, Bool.false_or] at this
  exact eq_of_beq this
theorem lo_blank (c : UInt8) (h : bl c = true) : lo c = c := by
  have := byte_all (fun c => !(bl c) || lo c == c) (by decide +kernel) c
  simp only [h, Bool.not_true, Bool.false_or] at this
  exact eq_of_beq this
theorem bl_ten : bl 10 = false := by decide
theorem lo_ten' : lo 10 = 10 := by decide

/-! ### the end's blanks -/
theorem tl_nil : tl [] = [] := rfl
theorem tl_blank (l : List UInt8) (c : UInt8) (h : bl c = true) : tl (l ++ [c]) = tl l := by
  unfold tl
  simp [h]
theorem tl_else (l : List UInt8) (c : UInt8) (h : bl c = false) : tl (l ++ [c]) = l ++ [c] := by
  unfold tl
  simp [h]
theorem lb_snoc (l : List UInt8) (c : UInt8) : lb (l ++ [c]) = bl c := by simp [lb]
theorem lb_nil : lb [] = false := rfl
/-- from the end on -/
theorem snoc_rec {p : List UInt8 → Prop} (h0 : p []) (h1 : ∀ l c, p l → p (l ++ [c])) (l : List UInt8) : p l := by
  have : ∀ r : List UInt8, p r.reverse := by
    intro r
    induction r with
    | nil => exact h0
    | cons c r ih => rw [List.reverse_cons]; exact h1 _ _ ih
  simpa using this l.reverse
theorem tl_tl (l : List UInt8) : tl (tl l) = tl l := by
  refine snoc_rec (p := fun l => tl (tl l) = tl l) rfl (fun l c ih => ?_) l
  cases h : bl c with
  | true => rw [tl_blank l c h]; exact ih
  | false => rw [tl_else l c h]; exact tl_else l c h
theorem tl_len (l : List UInt8) : (tl l).length ≤ l.length := by
  refine snoc_rec (p := fun l => (tl l).length ≤ l.length) (Nat.le_refl _) (fun l c ih => ?_) l
  cases h : bl c with
  | true => rw [tl_blank l c h]; simp; omega
  | false => rw [tl_else l c h]; exact Nat.le_refl _
theorem cl_snoc (l : List UInt8) (c : UInt8) : cl (l ++ [c]) = if bl c = true then cl l else cl l ++ [c] := by
  unfold cl
  rw [List.filter_append]
  cases h : bl c <;> simp [h]
theorem cl_tl (l : List UInt8) : cl (tl l) = cl l := by
  refine snoc_rec (p := fun l => cl (tl l) = cl l) rfl (fun l c ih => ?_) l
  cases h : bl c with
  | true => rw [tl_blank l c h, cl_snoc, h]; exact ih
  | false => rw [tl_else l c h]
theorem cl_cl (l : List UInt8) : cl (cl l) = cl l := by simp [cl, List.filter_filter]
theorem tl_cl (l : List UInt8) : tl (cl l) = cl l := by
  refine snoc_rec (p := fun l => tl (cl l) = cl l) rfl (fun l c ih => ?_) l
  rw [cl_snoc]
  cases h : bl c with
  | true => exact ih
  | false => exact tl_else _ c h
theorem cl_len (l : List UInt8) : (cl l).length ≤ l.length := List.length_filter_le _ _

/-! ### runs of blanks -/
theorem sqA_snoc : ∀ (l : List UInt8) (p : Bool) (c : UInt8), sqA p (l ++ [c]) = sqA p l ++ (if bl c = true then (if (l.getLast?.map bl).getD p = true then [] else [32]) else [c])
  | [], p, c => by
    cases h : bl c <;> cases p <;> simp [sqA, h]
  | d :: r, p, c => by
    have e : ((d :: r).getLast?.map bl).getD p = (r.getLast?.map bl).getD (bl d) := by
      cases r with
      | nil => simp
      | cons x y => simp [List.getLast?_cons]
    rw [e, List.cons_append]
    cases h : bl d with
    | true =>
      cases p with
      | true => simp only [sqA, h, if_true]; rw [sqA_snoc r true c]
      | false => simp only [sqA, h, if_true, Bool.false_eq_true, if_false]; rw [sqA_snoc r true c]; rfl
    | false => simp only [sqA, h, Bool.false_eq_true, if_false]; rw [sqA_snoc r false c]; rfl
theorem sq_snoc (l : List UInt8) (c : UInt8) : sq (l ++ [c]) = sq l ++ (if bl c = true then (if lb l = true then [] else [32]) else [c]) := sqA_snoc l false c
theorem sq_nil : sq [] = [] := rfl
theorem bl_32 : bl 32 = true := by decide
theorem lb_sq (l : List UInt8) : lb (sq l) = lb l := by
  refine snoc_rec (p := fun l => lb (sq l) = lb l) rfl (fun l c ih => ?_) l
  rw [sq_snoc, lb_snoc]
  cases h : bl c with
  | true =>
    cases h2 : lb l with
    | true => simp only [if_true, List.append_nil]; rw [ih, h2]
    | false => simp only [if_true, Bool.false_eq_true, if_false]; rw [lb_snoc]; exact bl_32
  | false => simp only [Bool.false_eq_true, if_false]; rw [lb_snoc]; exact h
theorem sq_sq (l : List UInt8) : sq (sq l) = sq l := by
  refine snoc_rec (p := fun l => sq (sq l) = sq l) rfl (fun l c ih => ?_) l
  rw [sq_snoc]
  cases h : bl c with
  | true =>
    cases h2 : lb l with
    | true => simpa using ih
    | false => simp only [if_true, Bool.false_eq_true, if_false]; rw [sq_snoc, ih, lb_sq, h2]; simp [bl_32]
  | false => simp only [Bool.false_eq_true, if_false]; rw [sq_snoc, ih, h]; simp
theorem sq_tl (l : List UInt8) : sq (tl l) = tl (sq l) := by
  refine snoc_rec (p := fun l => sq (tl l) = tl (sq l)) rfl (fun l c ih => ?_) l
  cases h : bl c with
  | true =>
    rw [tl_blank l c h, sq_snoc, h]
    cases h2 : lb l with
    | true => simpa using ih
    | false => simp only [if_true, Bool.false_eq_true, if_false]; rw [tl_blank _ _ bl_32]; exact ih
  | false =>
    rw [tl_else l c h, sq_snoc, h]
    simp only [Bool.false_eq_true, if_false]
    rw [tl_else _ _ h]
theorem cl_sq (l : List UInt8) : cl (sq l) = cl l := by
  refine snoc_rec (p := fun l => cl (sq l) = cl l) rfl (fun l c ih => ?_) l
  rw [sq_snoc, cl_snoc]
  cases h : bl c with
  | true =>
    cases h2 : lb l with
    | true => simpa using ih
    | false => simp only [if_true, Bool.false_eq_true, if_false]; rw [cl_snoc, bl_32]; exact ih
  | false => simp only [Bool.false_eq_true, if_false]; rw [cl_snoc, h, ih]; simp
theorem sq_len (l : List UInt8) : (sq l).length ≤ l.length := by
  refine snoc_rec (p := fun l => (sq l).length ≤ l.length) (Nat.le_refl _) (fun l c ih => ?_) l
  rw [sq_snoc, List.length_append, List.length_append]
  have : (if bl c = true then (if lb l = true then [] else [32]) else [c] : List UInt8).length ≤ 1 := by
    cases bl c <;> cases lb l <;> simp
  simp only [List.length_cons, List.length_nil]
  omega

/-! ### small letters -/
theorem lw_tl (l : List UInt8) : lw (tl l) = tl (lw l) := by
  refine snoc_rec (p := fun l => lw (tl l) = tl (lw l)) rfl (fun l c ih => ?_) l
  have e : lw (l ++ [c]) = lw l ++ [lo c] := by simp [lw]
  cases h : bl c with
  | true => rw [tl_blank l c h, e, tl_blank _ _ (by rw [bl_lo]; exact h)]; exact ih
  | false => rw [tl_else l c h, e, tl_else _ _ (by rw [bl_lo]; exact h)]
theorem lw_snoc (l : List UInt8) (c : UInt8) : lw (l ++ [c]) = lw l ++ [lo c] := by simp [lw]
theorem lb_lw (l : List UInt8) : lb (lw l) = lb l := by
  refine snoc_rec (p := fun l => lb (lw l) = lb l) rfl (fun l c _ => ?_) l
  rw [lw_snoc, lb_snoc, lb_snoc, bl_lo]
theorem lw_sq (l : List UInt8) : lw (sq l) = sq (lw l) := by
  refine snoc_rec (p := fun l => lw (sq l) = sq (lw l)) rfl (fun l c ih => ?_) l
  rw [sq_snoc, lw_snoc, sq_snoc, lb_lw, bl_lo]
  cases h : bl c with
  | true =>
    cases h2 : lb l with
    | true => simpa using ih
    | false => simp only [if_true, Bool.false_eq_true, if_false]; rw [lw_snoc, ih, lo_blank _ bl_32]
  | false => simp only [Bool.false_eq_true, if_false]; rw [lw_snoc, ih]
theorem lw_cl (l : List UInt8) : lw (cl l) = cl (lw l) := by
  refine snoc_rec (p := fun l => lw (cl l) = cl (lw l)) rfl (fun l c ih => ?_) l
  rw [cl_snoc, lw_snoc, cl_snoc, bl_lo]
  cases h : bl c with
  | true => exact ih
  | false => simp only [Bool.false_eq_true, if_false]; rw [lw_snoc, ih]
theorem lw_lw (l : List UInt8) : lw (lw l) = lw l := by
  unfold lw
  rw [List.map_map]
  exact List.map_congr_left fun c _ => lo_lo c

/-! ### what counts of a text without its end -/
def sp : Nat → List UInt8 → List UInt8
  | 0, l => l
  | 1, l => tl l
  | 2, l => sq (tl l)
  | _, l => cl l
theorem lw_sp (k : Nat) (l : List UInt8) : lw (sp k l) = sp k (lw l) := by
  match k with
  | 0 => rfl
  | 1 => exact lw_tl l
  | 2 => show lw (sq (tl l)) = sq (tl (lw l)); rw [lw_sq, lw_tl]
  | _ + 3 => exact lw_cl l
theorem sp_sp (j k : Nat) (h : j ≤ k) (l : List UInt8) : sp k (sp j l) = sp k l := by
  match j, k with
  | 0, _ => rfl
  | 1, 1 => exact tl_tl l
  | 1, 2 => show sq (tl (tl l)) = _; rw [tl_tl]; rfl
  | 1, _ + 3 => exact cl_tl l
  | 2, 2 => show sq (tl (sq (tl l))) = sq (tl l); rw [← sq_tl, tl_tl, sq_sq]
  | 2, _ + 3 => show cl (sq (tl l)) = cl l; rw [cl_sq, cl_tl]
  | _ + 3, _ + 3 => exact cl_cl l
  | _ + 1, 0 => omega
  | _ + 2, 1 => omega
  | _ + 3, 2 => omega
theorem tl_sp (k : Nat) (h : k ≠ 0) (l : List UInt8) : tl (sp k l) = sp k l := by
  match k with
  | 0 => exact absurd rfl h
  | 1 => exact tl_tl l
  | 2 => show tl (sq (tl l)) = sq (tl l); rw [← sq_tl, tl_tl]
  | _ + 3 => exact tl_cl l
theorem sp_ten (k : Nat) (l : List UInt8) (h : tl l = l) : sp k (l ++ [10]) = sp k l ++ [10] := by
  match k with
  | 0 => rfl
  | 1 => show tl (l ++ [10]) = tl l ++ [10]; rw [tl_else _ _ bl_ten, h]
  | 2 => show sq (tl (l ++ [10])) = sq (tl l) ++ [10]; rw [tl_else _ _ bl_ten, h, sq_snoc, bl_ten]; rfl
  | _ + 3 => show cl (l ++ [10]) = cl l ++ [10]; rw [cl_snoc, bl_ten]; rfl
theorem sp_len (k : Nat) (l : List UInt8) : (sp k l).length ≤ l.length := by
  match k with
  | 0 => exact Nat.le_refl _
  | 1 => exact tl_len l
  | 2 => exact Nat.le_trans (sq_len _) (tl_len l)
  | _ + 3 => exact cl_len l

/-- how much of the blanks counts, by a sum of ways -/
def kd (e : Nat) : Nat := if e / 2 % 2 = 1 then 3 else if e / 4 % 2 = 1 then 2 else if e / 8 % 2 = 1 then 1 else 0
def fk (e : Nat) (l : List UInt8) : List UInt8 := if e % 2 = 1 then lw (sp (kd e) l) else sp (kd e) l
def bare (l : List UInt8) : List UInt8 := if Pl.wh l = true then l.dropLast else l
/-- IN1 -/
def key (e : Nat) (l : List UInt8) : List UInt8 := if Pl.wh l = true then fk e l.dropLast ++ [10] else fk e l

theorem fk_len (e : Nat) (l : List UInt8) : (fk e l).length ≤ l.length := by
  unfold fk
  split
  · unfold lw; rw [List.length_map]; exact sp_len _ _
  · exact sp_len _ _
theorem wh_snoc (l : List UInt8) (c : UInt8) : Pl.wh (l ++ [c]) = (c == 10) := by simp [Pl.wh]
theorem wh_out (l : List UInt8) (h : Pl.wh l = true) : ∃ x, l = x ++ [10] := by
  revert h
  refine snoc_rec (p := fun l => Pl.wh l = true → ∃ x, l = x ++ [10]) (fun h => by simp [Pl.wh] at h) (fun l c _ h => ?_) l
  rw [wh_snoc] at h
  exact ⟨l, by rw [eq_of_beq h]⟩
theorem key_len (e : Nat) (l : List UInt8) : (key e l).length ≤ l.length := by
  unfold key
  cases h : Pl.wh l with
  | true =>
    obtain ⟨x, rfl⟩ := wh_out l h
    have := fk_len e x
    simp
    omega
  | false => simpa using fk_len e l
theorem key_zero (l : List UInt8) : key 0 l = l := by
  unfold key
  cases h : Pl.wh l with
  | true => obtain ⟨x, rfl⟩ := wh_out l h; simp [fk, kd, sp]
  | false => rfl
theorem fk_fk (e m : Nat) (hk : kd e ≤ kd m) (hc : e % 2 = 1 → m % 2 = 1) (l : List UInt8) : fk m (fk e l) = fk m l := by
  unfold fk
  by_cases h1 : e % 2 = 1
  · rw [if_pos h1, if_pos (hc h1), if_pos (hc h1), ← lw_sp, lw_lw, sp_sp _ _ hk]
  · rw [if_neg h1]
    by_cases h2 : m % 2 = 1
    · rw [if_pos h2, if_pos h2, sp_sp _ _ hk]
    · rw [if_neg h2, if_neg h2, sp_sp _ _ hk]
theorem tl_fk (e : Nat) (h : kd e ≠ 0) (l : List UInt8) : tl (fk e l) = fk e l := by
  unfold fk
  split
  · rw [← lw_tl, tl_sp _ h]
  · exact tl_sp _ h l
theorem fk_ten (e : Nat) (l : List UInt8) (h : tl l = l) : fk e (l ++ [10]) = fk e l ++ [10] := by
  unfold fk
  rw [sp_ten _ _ h]
  split
  · rw [lw_snoc, lo_ten']
  · rfl
/-- a text whose key by letters alone has an end has it itself -/
theorem fk_plain_end (e : Nat) (h : kd e = 0) (x y : List UInt8) (he : fk e x ++ [10] = fk e y) : Pl.wh y = true := by
  have h0 : fk e y = y ∨ fk e y = lw y := by
    unfold fk
    rw [h]
    split
    · exact .inr rfl
    · exact .inl rfl
  rcases h0 with h0 | h0
  · rw [h0] at he; rw [← he, wh_snoc]; rfl
  · rw [h0] at he
    revert he
    refine snoc_rec (p := fun y => fk e x ++ [10] = lw y → Pl.wh y = true) (fun he => by simp [lw] at he) (fun l c _ he => ?_) y
    rw [lw_snoc] at he
    have := (List.append_inj' he rfl).2
    have hc : lo c = 10 := by simpa using this.symm
    rw [wh_snoc, lo_ten c hc]; rfl
/-- IN4: with more ways -/
theorem key_more (e m : Nat) (hk : kd e ≤ kd m) (hc : e % 2 = 1 → m % 2 = 1) (s t : List UInt8) (h : key e s = key e t) : key m s = key m t := by
  have mixed : ∀ x y : List UInt8, Pl.wh y = false → fk e x ++ [10] = fk e y → fk m x ++ [10] = fk m y := by
    intro x y hy he
    have hne : kd e ≠ 0 := fun h0 => by
      have := fk_plain_end e h0 x y he
      rw [hy] at this; cases this
    rw [← fk_fk e m hk hc y, ← he, fk_ten m _ (tl_fk e hne x), fk_fk e m hk hc]
  unfold key at h ⊢
  cases h1 : Pl.wh s with
  | true =>
    cases h2 : Pl.wh t with
    | true =>
      simp only [h1, h2, if_true] at h ⊢
      have := (List.append_inj' h rfl).1
      rw [← fk_fk e m hk hc s.dropLast, this, fk_fk e m hk hc]
    | false =>
      simp only [h1, h2, if_true, Bool.false_eq_true, if_false] at h ⊢
      exact mixed _ _ h2 h
  | false =>
    cases h2 : Pl.wh t with
    | true =>
      simp only [h1, h2, if_true, Bool.false_eq_true, if_false] at h ⊢
      exact (mixed _ _ h1 h.symm).symm
    | false =>
      simp only [h1, h2, Bool.false_eq_true, if_false] at h ⊢
      rw [← fk_fk e m hk hc s, h, fk_fk e m hk hc]
/-- whatever the number: IN1 and what is no sum of ways -/
def keyI (e : Int) (l : List UInt8) : List UInt8 := if 0 ≤ e ∧ e ≤ 15 then key e.toNat l else l

/-! ### numbers -/
def stp (ks : List (List UInt8)) (k : List UInt8) : List (List UInt8) := if k ∈ ks then ks else ks ++ [k]
/-- the keys met, in order, behind these -/
def met : List (List UInt8) → List (List UInt8) → List (List UInt8)
  | ks, [] => ks
  | ks, k :: r => met (stp ks k) r
/-- the numbers -/
def nums : List (List UInt8) → List (List UInt8) → List Nat
  | _, [] => []
  | ks, k :: r => ks.idxOf k :: nums (stp ks k) r
theorem nums_len : ∀ (ks l : List (List UInt8)), (nums ks l).length = l.length
  | _, [] => rfl
  | ks, k :: r => by simp [nums, nums_len (stp ks k) r]
theorem met_append : ∀ (ks a b : List (List UInt8)), met ks (a ++ b) = met (met ks a) b
  | _, [], _ => rfl
  | ks, k :: a, b => met_append (stp ks k) a b
theorem nums_append : ∀ (ks a b : List (List UInt8)), nums ks (a ++ b) = nums ks a ++ nums (met ks a) b
  | _, [], _ => rfl
  | ks, k :: a, b => by simp only [List.cons_append, nums, met]; rw [nums_append (stp ks k) a b]
theorem stp_len (ks : List (List UInt8)) (k : List UInt8) : (stp ks k).length ≤ ks.length + 1 := by
  unfold stp
  split <;> simp
theorem met_len : ∀ (ks l : List (List UInt8)), (met ks l).length ≤ ks.length + l.length
  | _, [] => Nat.le_refl _
  | ks, k :: r => by
    have h1 := met_len (stp ks k) r
    have h2 := stp_len ks k
    simp only [met, List.length_cons]
    omega
theorem idx_stp (ks : List (List UInt8)) (k x : List UInt8) (h : x ∈ ks) : (stp ks k).idxOf x = ks.idxOf x := by
  unfold stp
  split
  · rfl
  · rw [List.idxOf_append, if_pos h]
theorem idx_new (ks : List (List UInt8)) (k : List UInt8) : (stp ks k).idxOf k = ks.idxOf k := by
  by_cases h : k ∈ ks
  · exact idx_stp ks k k h
  · unfold stp
    rw [if_neg h, List.idxOf_append, if_neg h, List.idxOf_eq_length h]
    simp
theorem mem_stp (ks : List (List UInt8)) (k : List UInt8) : k ∈ stp ks k := by
  unfold stp
  split
  · assumption
  · simp
theorem sub_stp (ks : List (List UInt8)) (k x : List UInt8) (h : x ∈ ks) : x ∈ stp ks k := by
  unfold stp
  split
  · exact h
  · simp [h]
end Go.Proofs.YtmomeemkdfoklaaDoor.In
