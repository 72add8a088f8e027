/-
  Plain, for SideBack: a marked text without what stands between two marks, and without two others.
-/
import Derived.Test.YtgpgpopefmkpoaaDoorS6
namespace Go.Proofs.YtgpgpopefmkpoaaDoor
open Ed (Ch)

/-- the bytes that marks are made of -/
def isM (x : UInt8) : Prop := x = 91 ∨ x = 93 ∨ x = 123 ∨ x = 125 ∨ x = 43 ∨ x = 45
def Free (L : Sd.Bs) : Prop := ∀ x ∈ L, ¬ isM x
/-- what the law's 'without' leaves: within (true) or not -/
def wo (f t o c : UInt8 × UInt8) : Bool → Sd.Bs → Sd.Bs
  | _, [] => []
  | i, [x] => if i then [] else [x]
  | i, x :: y :: r => if (x, y) = f then wo f t o c true r else if (x, y) = t then wo f t o c false r else if (x, y) = o ∨ (x, y) = c then wo f t o c i r else (if i then [] else [x]) ++ wo f t o c i (y :: r)
def MkP (p : UInt8 × UInt8) : Prop := isM p.1
theorem wo_free {f t o c : UInt8 × UInt8} (hf : MkP f) (ht : MkP t) (ho : MkP o) (hc : MkP c) (i : Bool) (r : Sd.Bs) : ∀ M : Sd.Bs, Free M → wo f t o c i (M ++ r) = (if i then [] else M) ++ wo f t o c i r
  | [], _ => by cases i <;> rfl
  | x :: M, h => by
    have hx : ¬ isM x := h x (List.mem_cons_self ..)
    have ih := wo_free hf ht ho hc i r M (fun y hy => h y (List.mem_cons_of_mem _ hy))
    have n1 : ∀ (p : UInt8 × UInt8) (y : UInt8), MkP p → (x, y) ≠ p := fun p y hp e => hx (by unfold MkP at hp; rw [← e] at hp; exact hp)
    cases hM : M ++ r with
    | nil =>
      obtain ⟨rfl, rfl⟩ := List.append_eq_nil_iff.1 hM
      cases i <;> rfl
    | cons y z =>
      rw [List.cons_append, hM, wo, if_neg (n1 _ _ hf), if_neg (n1 _ _ ht), if_neg (fun e => e.elim (n1 _ _ ho) (n1 _ _ hc)), ← hM, ih]
      cases i <;> simp
theorem Free.append {L M : Sd.Bs} (h : Free L) (g : Free M) : Free (L ++ M) := fun x hx => (List.mem_append.1 hx).elim (h x) (g x)
theorem free_part {L : List ByteArray} (h : ∀ x ∈ L, Free x.data.toList) (a b : Nat) : Free (flatB (part L a b)) := by
  intro x hx
  unfold flatB at hx
  obtain ⟨l, hl, hxl⟩ := List.mem_flatten.1 hx
  obtain ⟨y, hy, rfl⟩ := List.mem_map.1 hl
  exact h y (List.mem_of_mem_drop (List.mem_of_mem_take hy)) x hxl

/-- what is left of the first text's side, of the second text's side -/
def inlA (A B : List ByteArray) : List Ch → Nat → Sd.Bs
  | [], k => flatB (part B k B.length)
  | c :: r, k => flatB (part B k c.b.toNat) ++ (flatB (part A c.a.toNat (c.a + c.n).toNat) ++ inlA A B r (c.b + c.m).toNat)
def inlB (B : List ByteArray) : List Ch → Nat → Sd.Bs
  | [], k => flatB (part B k B.length)
  | c :: r, k => flatB (part B k c.b.toNat) ++ (flatB (part B c.b.toNat (c.b + c.m).toNat) ++ inlB B r (c.b + c.m).toNat)
theorem flat_nil {L : List ByteArray} (h : L.length = 0) : flatB L = [] := by rw [List.length_eq_zero_iff.1 h]; rfl
theorem wo_o {f t o c : UInt8 × UInt8} (h1 : o ≠ f) (h2 : o ≠ t) (i : Bool) (r : Sd.Bs) : wo f t o c i (o.1 :: o.2 :: r) = wo f t o c i r := by rw [wo, if_neg h1, if_neg h2, if_pos (.inl rfl)]
theorem wo_c {f t o c : UInt8 × UInt8} (h1 : c ≠ f) (h2 : c ≠ t) (i : Bool) (r : Sd.Bs) : wo f t o c i (c.1 :: c.2 :: r) = wo f t o c i r := by rw [wo, if_neg h1, if_neg h2, if_pos (.inr rfl)]
theorem wo_f {f t o c : UInt8 × UInt8} (i : Bool) (r : Sd.Bs) : wo f t o c i (f.1 :: f.2 :: r) = wo f t o c true r := by rw [wo, if_pos rfl]
theorem wo_t {f t o c : UInt8 × UInt8} (h : t ≠ f) (i : Bool) (r : Sd.Bs) : wo f t o c i (t.1 :: t.2 :: r) = wo f t o c false r := by rw [wo, if_neg h, if_pos rfl]
theorem wo_keep {f t o c : UInt8 × UInt8} (hf : MkP f) (ht : MkP t) (ho : MkP o) (hc : MkP c) (h1 : o ≠ f) (h2 : o ≠ t) (h3 : c ≠ f) (h4 : c ≠ t) {L : List ByteArray} (hL : Free (flatB L)) (r : Sd.Bs) :
    wo f t o c false (markB [o.1, o.2] L [c.1, c.2] ++ r) = flatB L ++ wo f t o c false r := by
  unfold markB
  split
  · next h => rw [flat_nil h]; rfl
  · rw [List.append_assoc, List.append_assoc]
    show wo f t o c false (o.1 :: o.2 :: (flatB L ++ (c.1 :: c.2 :: r))) = _
    rw [wo_o h1 h2, wo_free hf ht ho hc false _ _ hL, wo_c h3 h4]
    rfl
theorem wo_drop {f t o c : UInt8 × UInt8} (hf : MkP f) (ht : MkP t) (ho : MkP o) (hc : MkP c) (h1 : t ≠ f) {L : List ByteArray} (hL : Free (flatB L)) (r : Sd.Bs) :
    wo f t o c false (markB [f.1, f.2] L [t.1, t.2] ++ r) = wo f t o c false r := by
  unfold markB
  split
  · rfl
  · rw [List.append_assoc, List.append_assoc]
    show wo f t o c false (f.1 :: f.2 :: (flatB L ++ (t.1 :: t.2 :: r))) = _
    rw [wo_f, wo_free hf ht ho hc true _ _ hL, wo_t h1]
    rfl
theorem mk1 : MkP (91, 45) := .inl rfl
theorem mk2 : MkP (45, 93) := .inr (.inr (.inr (.inr (.inr rfl))))
theorem mk3 : MkP (123, 43) := .inr (.inr (.inl rfl))
theorem mk4 : MkP (43, 125) := .inr (.inr (.inr (.inr (.inl rfl))))
theorem wo_A {A B : List ByteArray} (ha : ∀ x ∈ A, Free x.data.toList) (hb : ∀ x ∈ B, Free x.data.toList) : ∀ (s : List Ch) (k : Nat), wo (123, 43) (43, 125) (91, 45) (45, 93) false (inlP A B s k) = inlA A B s k
  | [], k => by
    have := wo_free mk3 mk4 mk1 mk2 false [] _ (free_part hb k B.length)
    rw [List.append_nil] at this
    exact this.trans (List.append_nil _)
  | c :: r, k => by
    show wo _ _ _ _ false (flatB (part B k c.b.toNat) ++ (markB [91, 45] (part A c.a.toNat (c.a + c.n).toNat) [45, 93] ++ (markB [123, 43] (part B c.b.toNat (c.b + c.m).toNat) [43, 125] ++ inlP A B r (c.b + c.m).toNat))) = _
    rw [wo_free mk3 mk4 mk1 mk2 false _ _ (free_part hb _ _),
      wo_keep (o := (91, 45)) (c := (45, 93)) mk3 mk4 mk1 mk2 (by decide) (by decide) (by decide) (by decide) (free_part ha _ _),
      wo_drop (f := (123, 43)) (t := (43, 125)) mk3 mk4 mk1 mk2 (by decide) (free_part hb _ _), wo_A ha hb r]
    rfl
theorem wo_B {A B : List ByteArray} (ha : ∀ x ∈ A, Free x.data.toList) (hb : ∀ x ∈ B, Free x.data.toList) : ∀ (s : List Ch) (k : Nat), wo (91, 45) (45, 93) (123, 43) (43, 125) false (inlP A B s k) = inlB B s k
  | [], k => by
    have := wo_free mk1 mk2 mk3 mk4 false [] _ (free_part hb k B.length)
    rw [List.append_nil] at this
    exact this.trans (List.append_nil _)
  | c :: r, k => by
    show wo _ _ _ _ false (flatB (part B k c.b.toNat) ++ (markB [91, 45] (part A c.a.toNat (c.a + c.n).toNat) [45, 93] ++ (markB [123, 43] (part B c.b.toNat (c.b + c.m).toNat) [43, 125] ++ inlP A B r (c.b + c.m).toNat))) = _
    rw [wo_free mk1 mk2 mk3 mk4 false _ _ (free_part hb _ _),
      wo_drop (f := (91, 45)) (t := (45, 93)) mk1 mk2 mk3 mk4 (by decide) (free_part ha _ _),
      wo_keep (o := (123, 43)) (c := (43, 125)) mk1 mk2 mk3 mk4 (by decide) (by decide) (by decide) (by decide) (free_part hb _ _), wo_B ha hb r]
    rfl
theorem flat_app (L M : List ByteArray) : flatB (L ++ M) = flatB L ++ flatB M := by unfold flatB; rw [List.map_append, List.flatten_append]
theorem part_two (L : List ByteArray) {x y z : Nat} (h : x ≤ y) (g : y ≤ z) : part L x y ++ part L y z = part L x z := by
  unfold part
  rw [show z - x = (y - x) + (z - y) by omega, List.take_add, List.drop_drop, show x + (y - x) = y by omega]
theorem inlB_eq {A B : List ByteArray} : ∀ (s : List Ch) (a b : Int), Ed.val s a b A.length B.length = true → 0 ≤ b → b ≤ B.length → inlB B s b.toNat = flatB (part B b.toNat B.length)
  | [], _, _, _, _, _ => rfl
  | c :: s, a, b, h, h1, h2 => by
    obtain ⟨hc, hv⟩ := Ed.val_cons.1 h
    obtain ⟨⟨p1, p2, p3⟩, ⟨p4, p5, p6⟩, _, _⟩ := hc
    show flatB (part B b.toNat c.b.toNat) ++ (flatB (part B c.b.toNat (c.b + c.m).toNat) ++ inlB B s (c.b + c.m).toNat) = _
    rw [inlB_eq s _ _ hv (by omega) (by omega), ← flat_app, part_two B (by omega) (by omega), ← flat_app, part_two B (by omega) (by omega)]
/-- the lines between the changes are the same on both sides -/
def com (A B : List ByteArray) : List Ch → Nat → Nat → Prop
  | [], i, k => part A i A.length = part B k B.length
  | c :: r, i, k => part A i c.a.toNat = part B k c.b.toNat ∧ com A B r (c.a + c.n).toNat (c.b + c.m).toNat
theorem inlA_eq {A B : List ByteArray} : ∀ (s : List Ch) (a b : Int), Ed.val s a b A.length B.length = true → 0 ≤ a → 0 ≤ b → a ≤ A.length → com A B s a.toNat b.toNat → inlA A B s b.toNat = flatB (part A a.toNat A.length)
  | [], a, b, _, _, _, _, hc => by
    show flatB (part B b.toNat B.length) = _
    rw [show part A a.toNat A.length = part B b.toNat B.length from hc]
  | c :: s, a, b, h, h0, h1, h2, hcm => by
    obtain ⟨hc, hv⟩ := Ed.val_cons.1 h
    obtain ⟨⟨p1, p2, p3⟩, ⟨p4, p5, p6⟩, _, _⟩ := hc
    obtain ⟨e, hcm2⟩ : part A a.toNat c.a.toNat = part B b.toNat c.b.toNat ∧ com A B s (c.a + c.n).toNat (c.b + c.m).toNat := hcm
    show flatB (part B b.toNat c.b.toNat) ++ (flatB (part A c.a.toNat (c.a + c.n).toNat) ++ inlA A B s (c.b + c.m).toNat) = _
    rw [inlA_eq s _ _ hv (by omega) (by omega) (by omega) hcm2, ← e, ← flat_app, part_two A (by omega) (by omega), ← flat_app, part_two A (by omega) (by omega)]
theorem part_all (L : List ByteArray) : part L 0 L.length = L := by unfold part; rw [List.drop_zero, Nat.sub_zero, List.take_length]
/-- both texts come back -/
theorem back_both {A B : List ByteArray} {s : List Ch} (hv : Ed.val s 0 0 A.length B.length = true) (ha : ∀ x ∈ A, Free x.data.toList) (hb : ∀ x ∈ B, Free x.data.toList) (hc : com A B s 0 0) :
    wo (123, 43) (43, 125) (91, 45) (45, 93) false (inlP A B s 0) = flatB A ∧ wo (91, 45) (45, 93) (123, 43) (43, 125) false (inlP A B s 0) = flatB B := by
  constructor
  · rw [wo_A ha hb]
    have := inlA_eq (A := A) (B := B) s 0 0 hv (by omega) (by omega) (by omega) hc
    rw [show (0 : Int).toNat = 0 from rfl, part_all] at this
    exact this
  · rw [wo_B ha hb]
    have := inlB_eq (A := A) (B := B) s 0 0 hv (by omega) (by omega)
    rw [show (0 : Int).toNat = 0 from rfl, part_all] at this
    exact this
end Go.Proofs.YtgpgpopefmkpoaaDoor
