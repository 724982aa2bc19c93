import PyProof.Rows.All
import Wide.All
import OpenK.AllK
import Wide.FinOn
import Open.SpecLaws
import KE.OsGo
import KE.OsHead
import KE.KEqDeep
import HandS.ForSpec
import HandS.Iter
import HandS.Comp
import HandS.Walk
import PySem.Challenge.RW_paintsheets_s09_box
set_option Elab.async false
set_option maxRecDepth 100000
set_option maxHeartbeats 2000000
namespace My
open CeSheet

/-! ### bytes and whole numbers -/
def bints (bs : List UInt8) : List Int := bs.map fun c => (c.toNat : Int)
theorem bints_length (bs : List UInt8) : (bints bs).length = bs.length := by simp [bints]
theorem bints_append (as bs : List UInt8) : bints (as ++ bs) = bints as ++ bints bs := by simp [bints]
theorem text_bints (bs : List UInt8) : Neutral.text (bints bs) = bs := by
  induction bs with
  | nil => rfl
  | cons c r ih =>
    show UInt8.ofNat ((c.toNat : Int)).toNat :: Neutral.text (bints r) = c :: r
    rw [ih, Int.toNat_natCast, UInt8.ofNat_toNat]
theorem bints_text : ∀ (b : List Int), (∀ x ∈ b, 0 ≤ x ∧ x ≤ 255) → bints (Neutral.text b) = b
  | [], _ => rfl
  | x :: r, h => by
    have hx := h x (List.mem_cons_self ..)
    have ih := bints_text r fun y hy => h y (List.mem_cons_of_mem _ hy)
    show (((UInt8.ofNat x.toNat).toNat : Nat) : Int) :: bints (Neutral.text r) = x :: r
    rw [ih]
    congr 1
    rw [UInt8.toNat_ofNat']
    have : x.toNat % 2 ^ 8 = x.toNat := Nat.mod_eq_of_lt (by omega)
    rw [this]
    omega
theorem exists_bytes (b : List Int) (h : ∀ x ∈ b, 0 ≤ x ∧ x ≤ 255) : ∃ bs : List UInt8, b = bints bs := ⟨Neutral.text b, (bints_text b h).symm⟩
theorem drop_two {bs : List UInt8} {p : Nat} (h : p + 1 < bs.length) : ∃ n q, bs[p]? = some n ∧ bs[p + 1]? = some q ∧ bs.drop p = n :: q :: bs.drop (p + 2) := by
  refine ⟨bs[p], bs[p + 1], List.getElem?_eq_getElem (by omega), List.getElem?_eq_getElem h, ?_⟩
  rw [List.drop_eq_getElem_cons (by omega), List.drop_eq_getElem_cons (i := p + 1) h]

/-! ### the first fault -/
def faultOf {α : Type} : Except Fault α → Option Fault
  | .error e => some e
  | .ok _ => none
/-- what a run that is wanted at a place is blamed for -/
def runF (bs : List UInt8) (place left : Nat) (last : Option UInt8) : Option Fault :=
  match bs.drop place with
  | n :: q :: _ => if left < n.toNat + 1 then some (4, place) else if last = some q then some (5, place) else none
  | _ => some (3, bs.length)
theorem runF_two {bs : List UInt8} {place left : Nat} {last : Option UInt8} {n q : UInt8} {r : List UInt8} (h : bs.drop place = n :: q :: r) :
    runF bs place left last = if left < n.toNat + 1 then some (4, place) else if last = some q then some (5, place) else none := by
  unfold runF
  rw [h]
theorem runF_short {bs : List UInt8} {place left : Nat} {last : Option UInt8} (h : bs.length < place + 2) : runF bs place left last = some (3, bs.length) := by
  unfold runF
  have : (bs.drop place).length < 2 := by rw [List.length_drop]; omega
  match e : bs.drop place with
  | [] => rfl
  | [_] => rfl
  | _ :: _ :: _ =>
    rw [e] at this
    simp only [List.length_cons] at this
    omega
/-- behind a row that is being read: k rows more -/
def contF (w k : Nat) : Except Fault (Bytes × Nat × Bytes) → Option Fault
  | .error e => some e
  | .ok x => faultOf (rowsIn w k x.2.1 x.2.2)
theorem rows_succ (w k p : Nat) (b : Bytes) : faultOf (rowsIn w (k + 1) p b) = contF w k (rowIn w none p b) := by
  rw [rowsIn]
  cases e : rowIn w none p b with
  | error z => rfl
  | ok x =>
    show faultOf (match rowsIn w k x.2.1 x.2.2 with | .error e => Except.error e | .ok l => Except.ok (x.1 ++ l)) = faultOf (rowsIn w k x.2.1 x.2.2)
    cases rowsIn w k x.2.1 x.2.2 <;> rfl
theorem contF_zero (w k p : Nat) (last : Option UInt8) (b : Bytes) : contF w k (rowIn 0 last p b) = faultOf (rowsIn w k p b) := by
  rw [rowIn]
  rfl
theorem rowIn_two (left : Nat) (last : Option UInt8) (p : Nat) (n q : UInt8) (r : Bytes) : rowIn (left + 1) last p (n :: q :: r) =
    if left < n.toNat then .error (4, p) else if last = some q then .error (5, p) else match rowIn (left - n.toNat) (some q) (p + 2) r with
      | .ok x => .ok (List.replicate (n.toNat + 1) q ++ x.1, x.2)
      | .error e => .error e := by
  rw [rowIn]
  rfl
theorem contF_step {w k : Nat} {bs : List UInt8} {place left : Nat} {last : Option UInt8} (hp : place ≤ bs.length) :
    (∀ e, runF bs place (left + 1) last = some e → contF w k (rowIn (left + 1) last place (bs.drop place)) = some e) ∧
    (runF bs place (left + 1) last = none → ∃ n q, bs[place]? = some n ∧ bs[place + 1]? = some q ∧ place + 2 ≤ bs.length ∧ n.toNat ≤ left ∧
      contF w k (rowIn (left + 1) last place (bs.drop place)) = contF w k (rowIn (left - n.toNat) (some q) (place + 2) (bs.drop (place + 2)))) := by
  by_cases h2 : place + 1 < bs.length
  · obtain ⟨n, q, hn, hq, hd⟩ := drop_two h2
    rw [runF_two hd, hd, rowIn_two]
    by_cases c1 : left < n.toNat
    · rw [if_pos (by omega), if_pos c1]
      exact ⟨fun e he => he, fun he => by cases he⟩
    · rw [if_neg (by omega), if_neg c1]
      by_cases c2 : last = some q
      · rw [if_pos c2, if_pos c2]
        exact ⟨fun e he => he, fun he => by cases he⟩
      · rw [if_neg c2, if_neg c2]
        refine ⟨fun e he => (by cases he), fun _ => ⟨n, q, hn, hq, by omega, by omega, ?_⟩⟩
        cases rowIn (left - n.toNat) (some q) (place + 2) (bs.drop (place + 2)) with
        | error z => rfl
        | ok x => rfl
  · rw [runF_short (by omega)]
    refine ⟨fun e he => ?_, fun he => by cases he⟩
    rw [← he]
    by_cases h1 : place = bs.length
    · subst h1
      rw [List.drop_length, rowIn]
      rfl
    · have : (bs.drop place).length = 1 := by rw [List.length_drop]; omega
      match e : bs.drop place with
      | [] => rw [e] at this; simp at this
      | _ :: _ :: _ => rw [e] at this; simp at this
      | [z] =>
        rw [rowIn]
        show some (3, place + 1) = some (3, bs.length)
        rw [show place + 1 = bs.length by omega]
def headF (bs : List UInt8) : Option Fault :=
  if bs.length < 8 ∨ bs.take 4 ≠ MARK then some (1, 0) else if num2 bs 4 < 1 ∨ SIDE < num2 bs 4 then some (2, 4) else if num2 bs 6 < 1 ∨ SIDE < num2 bs 6 then some (2, 6) else none
def runsF (bs : List UInt8) (w h : Nat) : Option Fault := faultOf (rowsIn w h 8 (bs.drop 8))
def judgeF (bs : List UInt8) : Option Fault := faultOf (CeSheet.judge bs)
theorem headF_len {bs : List UInt8} (h : headF bs = none) : 8 ≤ bs.length := by
  unfold headF at h
  by_cases c : bs.length < 8 ∨ bs.take 4 ≠ MARK
  · rw [if_pos c] at h; cases h
  · omega
theorem judgeF_eq (bs : List UInt8) : judgeF bs = match headF bs with
    | some e => some e
    | none => runsF bs (num2 bs 4) (num2 bs 6) := by
  unfold judgeF headF CeSheet.judge
  by_cases c1 : bs.length < 8 ∨ bs.take 4 ≠ MARK
  · rw [if_pos c1, if_pos c1]; rfl
  · rw [if_neg c1, if_neg c1]
    by_cases c2 : num2 bs 4 < 1 ∨ SIDE < num2 bs 4
    · rw [if_pos c2, if_pos c2]; rfl
    · rw [if_neg c2, if_neg c2]
      by_cases c3 : num2 bs 6 < 1 ∨ SIDE < num2 bs 6
      · rw [if_pos c3, if_pos c3]; rfl
      · rw [if_neg c3, if_neg c3]
        show _ = faultOf (rowsIn (num2 bs 4) (num2 bs 6) 8 (bs.drop 8))
        cases rowsIn (num2 bs 4) (num2 bs 6) 8 (bs.drop 8) <;> rfl
/-- behind the rows: what is left -/
theorem rows_zero {w p : Nat} {bs : List UInt8} (hp : p ≤ bs.length) : faultOf (rowsIn w 0 p (bs.drop p)) = if p < bs.length then some (6, p) else none := by
  by_cases h : p < bs.length
  · rw [if_pos h, List.drop_eq_getElem_cons h, rowsIn]
    rfl
  · rw [if_neg h, List.drop_eq_nil_of_le (by omega), rowsIn]
    rfl
theorem num2_eq {bs : List UInt8} {i : Nat} {x y : UInt8} (hx : bs[i]? = some x) (hy : bs[i + 1]? = some y) : num2 bs i = x.toNat + 256 * y.toNat := by
  unfold num2
  rw [List.getD_eq_getElem?_getD, List.getD_eq_getElem?_getD, hx, hy]
  rfl

/-! ### what is due of judge and size -/
def judgeL (bs : List UInt8) : List Int := match judgeF bs with
  | some e => [-6, (e.1 : Int), (e.2 : Int)]
  | none => [0]
theorem judge_due {bs : List UInt8} (h : bs.length ≤ 131080) : PyWqasbp.judge (bints bs) = judgeL bs := by
  show Neutral.shown (if CeSheetSpec.LOOKED < (Neutral.text (bints bs)).length then CeSheetSpec.no 2 else (match CeSheet.judge (Neutral.text (bints bs)) with
    | .error e => .refused 6 [e.1, e.2]
    | .ok _ => .nums [0])) = _
  rw [text_bints, if_neg (by show ¬ 131080 < bs.length; omega)]
  unfold judgeL judgeF
  cases CeSheet.judge bs <;> rfl
def sizeL (bs : List UInt8) : List Int := match judgeF bs with
  | some _ => [-6]
  | none => [(num2 bs 4 : Int), (num2 bs 6 : Int)]
theorem judge_ok {bs : List UInt8} {s : Sheet} (h : CeSheet.judge bs = .ok s) : s.wide = num2 bs 4 ∧ s.high = num2 bs 6 ∧ rowsIn (num2 bs 4) (num2 bs 6) 8 (bs.drop 8) = .ok s.paints := by
  unfold CeSheet.judge at h
  split at h
  · cases h
  · split at h
    · cases h
    · split at h
      · cases h
      · split at h
        · cases h
        · rename_i l e
          cases h
          exact ⟨rfl, rfl, e⟩
theorem size_due {bs : List UInt8} (h : bs.length ≤ 131080) : PyWqasbp.size (bints bs) = sizeL bs := by
  show Neutral.shown (if CeSheetSpec.LOOKED < (Neutral.text (bints bs)).length then CeSheetSpec.no 2 else (match CeSheet.judge (Neutral.text (bints bs)) with
    | .error _ => CeSheetSpec.no 6
    | .ok s => .nums [s.wide, s.high])) = _
  rw [text_bints, if_neg (by show ¬ 131080 < bs.length; omega)]
  unfold sizeL judgeF
  cases e : CeSheet.judge bs with
  | error z => rfl
  | ok s =>
    obtain ⟨h1, h2, _⟩ := judge_ok e
    show [(s.wide : Int), (s.high : Int)] = _
    rw [h1, h2] <;> rfl
end My

namespace My
open CeSheet
/-! ### points: a width, a height and so many -/
def PtsOk (w h : Int) (n : Nat) : Prop := 1 ≤ w ∧ w ≤ 256 ∧ 1 ≤ h ∧ h ≤ 256 ∧ (n : Int) = w * h
instance (w h : Int) (n : Nat) : Decidable (PtsOk w h n) := by unfold PtsOk; exact inferInstance
theorem ptsOk_iff {w h : Int} (hw : 0 ≤ w) (hh : 0 ≤ h) (a : Bytes) : CeSheetSpec.pointsOk a w.toNat h.toNat = true ↔ PtsOk w h a.length := by
  unfold CeSheetSpec.pointsOk CeSheet.sizeOk PtsOk CeSheet.SIDE
  simp only [Bool.and_eq_true, decide_eq_true_eq, beq_iff_eq]
  obtain ⟨m, rfl⟩ := Int.eq_ofNat_of_zero_le hw
  obtain ⟨n, rfl⟩ := Int.eq_ofNat_of_zero_le hh
  simp only [Int.toNat_natCast]
  rw [← Int.natCast_mul]
  omega
end My

namespace My
/-! ### lists of numbers from 0 on -/
def nints (f : List Nat) : List Int := f.map fun n => ((n : Nat) : Int)
theorem nints_length (f : List Nat) : (nints f).length = f.length := List.length_map _
theorem nats_nints (f : List Nat) : Neutral.nats (nints f) = f := by
  unfold Neutral.nats nints
  rw [List.map_map]
  exact List.map_id'' (fun n => by simp) f
theorem exists_nats (ns : List Int) (h : ∀ x ∈ ns, 0 ≤ x ∧ x ≤ 4294967295) : ∃ f : List Nat, nints f = ns := by
  refine ⟨ns.map Int.toNat, ?_⟩
  unfold nints
  rw [List.map_map]
  refine (List.map_congr_left (g := id) fun x hx => ?_).trans (List.map_id _)
  have := (h x hx).1
  show ((x.toNat : Nat) : Int) = x
  omega
theorem mem_nints {f : List Nat} {m : Int} : m ∈ nints f ↔ ∃ n ∈ f, ((n : Nat) : Int) = m := by
  unfold nints
  rw [List.mem_map]
end My

namespace My
open CeSheet
/-! ### the least box -/
/-- the painted points of a list of points, W wide -/
def paintedOf (w : Nat) (a : Bytes) : List (Nat × Nat) := Sheet.painted ⟨w, 0, a⟩
theorem painted_high (w h : Nat) (a : Bytes) : Sheet.painted ⟨w, h, a⟩ = paintedOf w a := rfl
theorem paintedOf_nil (w : Nat) : paintedOf w [] = [] := rfl
theorem paintedOf_more (w : Nat) (a : Bytes) (p : UInt8) : paintedOf w (a ++ [p]) = paintedOf w a ++ (if p = 0 then [] else [(a.length % w, a.length / w)]) := by
  unfold paintedOf Sheet.painted
  show ((a ++ [p]).zipIdx.filter fun (x : UInt8 × Nat) => x.1 != 0).map _ = _
  rw [List.zipIdx_append, List.filter_append, List.map_append]
  congr 1
  show (List.filter (fun (x : UInt8 × Nat) => x.1 != 0) [(p, 0 + a.length)]).map _ = _
  by_cases c : p = 0
  · rw [if_pos c, c]
    rfl
  · rw [if_neg c, List.filter_cons_of_pos (by show (p != 0) = true; exact bne_iff_ne.mpr c), Nat.zero_add]
    rfl
theorem paintedOf_step {w : Nat} {a : Bytes} {i : Nat} {p : UInt8} (h : a[i]? = some p) : paintedOf w (a.take (i + 1)) = paintedOf w (a.take i) ++ (if p = 0 then [] else [(i % w, i / w)]) := by
  have hi : i < a.length := by
    by_cases z : i < a.length
    · exact z
    · rw [List.getElem?_eq_none (by omega)] at h
      cases h
  rw [List.take_add_one, h]
  show paintedOf w (a.take i ++ [p]) = _
  rw [paintedOf_more, List.length_take, Nat.min_eq_left (by omega)]
/-- one point more in a box -/
def wider (b : Nat × Nat × Nat × Nat) (q : Nat × Nat) : Nat × Nat × Nat × Nat := (min b.1 q.1, min b.2.1 q.2, max b.2.2.1 q.1, max b.2.2.2 q.2)
def boxOf : List (Nat × Nat) → Option (Nat × Nat × Nat × Nat)
  | [] => none
  | p :: r => some (r.foldl wider (p.1, p.2, p.1, p.2))
theorem box_eq (w h : Nat) (a : Bytes) : Sheet.box ⟨w, h, a⟩ = boxOf (paintedOf w a) := by
  unfold Sheet.box
  rw [painted_high]
  cases paintedOf w a <;> rfl
theorem boxOf_more (l : List (Nat × Nat)) (q : Nat × Nat) : boxOf (l ++ [q]) = some (match boxOf l with
    | none => (q.1, q.2, q.1, q.2)
    | some b => wider b q) := by
  cases l with
  | nil => rfl
  | cons p r =>
    show some ((r ++ [q]).foldl wider (p.1, p.2, p.1, p.2)) = _
    rw [List.foldl_append]
    rfl
/-- a box of points: none outside, its four ends met -/
structure Boxed (l : List (Nat × Nat)) (b : Nat × Nat × Nat × Nat) : Prop where
  inside : ∀ q ∈ l, b.1 ≤ q.1 ∧ b.2.1 ≤ q.2 ∧ q.1 ≤ b.2.2.1 ∧ q.2 ≤ b.2.2.2
  left : ∃ q ∈ l, q.1 = b.1
  upper : ∃ q ∈ l, q.2 = b.2.1
  right : ∃ q ∈ l, q.1 = b.2.2.1
  lower : ∃ q ∈ l, q.2 = b.2.2.2
theorem Boxed.more {l : List (Nat × Nat)} {b : Nat × Nat × Nat × Nat} (B : Boxed l b) (q : Nat × Nat) : Boxed (l ++ [q]) (wider b q) := by
  obtain ⟨h1, ⟨q1, m1, e1⟩, ⟨q2, m2, e2⟩, ⟨q3, m3, e3⟩, ⟨q4, m4, e4⟩⟩ := B
  have mem : ∀ {z}, z ∈ l → z ∈ l ++ [q] := fun h => List.mem_append_left _ h
  have mq : q ∈ l ++ [q] := List.mem_append_right _ (List.mem_singleton.mpr rfl)
  unfold wider
  refine ⟨fun z hz => ?_, ?_, ?_, ?_, ?_⟩
  · rcases List.mem_append.mp hz with h | h
    · have := h1 z h
      refine ⟨?_, ?_, ?_, ?_⟩ <;> simp only <;> omega
    · cases List.mem_singleton.mp h
      refine ⟨?_, ?_, ?_, ?_⟩ <;> simp only <;> omega
  · by_cases c : b.1 ≤ q.1
    · exact ⟨q1, mem m1, by simp only; omega⟩
    · exact ⟨q, mq, by simp only; omega⟩
  · by_cases c : b.2.1 ≤ q.2
    · exact ⟨q2, mem m2, by simp only; omega⟩
    · exact ⟨q, mq, by simp only; omega⟩
  · by_cases c : q.1 ≤ b.2.2.1
    · exact ⟨q3, mem m3, by simp only; omega⟩
    · exact ⟨q, mq, by simp only; omega⟩
  · by_cases c : q.2 ≤ b.2.2.2
    · exact ⟨q4, mem m4, by simp only; omega⟩
    · exact ⟨q, mq, by simp only; omega⟩
theorem Boxed.fold (r : List (Nat × Nat)) : ∀ (l : List (Nat × Nat)) (b : Nat × Nat × Nat × Nat), Boxed l b → Boxed (l ++ r) (r.foldl wider b) := by
  induction r with
  | nil =>
    intro l b B
    rw [List.append_nil]
    exact B
  | cons q r ih =>
    intro l b B
    have := ih (l ++ [q]) (wider b q) (B.more q)
    rwa [List.append_assoc] at this
theorem Boxed.of {l : List (Nat × Nat)} {b : Nat × Nat × Nat × Nat} (h : boxOf l = some b) : Boxed l b := by
  cases l with
  | nil => cases h
  | cons p r =>
    cases h
    refine Boxed.fold r [p] _ ⟨fun q hq => ?_, ⟨p, List.mem_singleton.mpr rfl, rfl⟩, ⟨p, List.mem_singleton.mpr rfl, rfl⟩, ⟨p, List.mem_singleton.mpr rfl, rfl⟩, ⟨p, List.mem_singleton.mpr rfl, rfl⟩⟩
    cases List.mem_singleton.mp hq
    exact ⟨Nat.le_refl _, Nat.le_refl _, Nat.le_refl _, Nat.le_refl _⟩
/-- there is one such box alone -/
theorem Boxed.one {l : List (Nat × Nat)} {b c : Nat × Nat × Nat × Nat} (B : Boxed l b) (C : Boxed l c) : b = c := by
  obtain ⟨h1, ⟨q1, m1, e1⟩, ⟨q2, m2, e2⟩, ⟨q3, m3, e3⟩, ⟨q4, m4, e4⟩⟩ := B
  obtain ⟨g1, ⟨p1, n1, f1⟩, ⟨p2, n2, f2⟩, ⟨p3, n3, f3⟩, ⟨p4, n4, f4⟩⟩ := C
  have a1 := g1 q1 m1
  have a2 := g1 q2 m2
  have a3 := g1 q3 m3
  have a4 := g1 q4 m4
  have b1 := h1 p1 n1
  have b2 := h1 p2 n2
  have b3 := h1 p3 n3
  have b4 := h1 p4 n4
  obtain ⟨x1, x2, x3, x4⟩ := b
  obtain ⟨y1, y2, y3, y4⟩ := c
  simp only at *
  have z1 : x1 = y1 := by omega
  have z2 : x2 = y2 := by omega
  have z3 : x3 = y3 := by omega
  have z4 : x4 = y4 := by omega
  rw [z1, z2, z3, z4]
theorem box_some {w h : Nat} {a : Bytes} {b : Nat × Nat × Nat × Nat} (B : Boxed (paintedOf w a) b) : Sheet.box ⟨w, h, a⟩ = some b := by
  rw [box_eq]
  cases e : boxOf (paintedOf w a) with
  | none =>
    obtain ⟨q, m, _⟩ := B.left
    cases e2 : paintedOf w a with
    | nil =>
      rw [e2] at m
      cases m
    | cons p r =>
      rw [e2] at e
      cases e
  | some c => rw [(Boxed.of e).one B]
theorem box_none {w h : Nat} {a : Bytes} (e : paintedOf w a = []) : Sheet.box ⟨w, h, a⟩ = none := by
  rw [box_eq, e]
  rfl
theorem mem_painted {w : Nat} {a : Bytes} {q : Nat × Nat} : q ∈ paintedOf w a ↔ ∃ i p, a[i]? = some p ∧ p ≠ 0 ∧ q = (i % w, i / w) := by
  unfold paintedOf Sheet.painted
  rw [List.mem_map]
  constructor
  · rintro ⟨⟨p, i⟩, hm, rfl⟩
    rw [List.mem_filter] at hm
    refine ⟨i, p, ?_, bne_iff_ne.mp hm.2, rfl⟩
    exact List.mk_mem_zipIdx_iff_getElem?.mp hm.1
  · rintro ⟨i, p, hp, hne, rfl⟩
    refine ⟨(p, i), ?_, rfl⟩
    rw [List.mem_filter]
    exact ⟨List.mk_mem_zipIdx_iff_getElem?.mpr hp, bne_iff_ne.mpr hne⟩
def boxL (w h : Int) (a : Bytes) : List Int := if PtsOk w h a.length then (match boxOf (paintedOf w.toNat a) with
  | some b => [(b.1 : Int), (b.2.1 : Int), (b.2.2.1 : Int), (b.2.2.2 : Int)]
  | none => [-3]) else [-1]
theorem box_due {w h : Int} (hw : 0 ≤ w) (hh : 0 ≤ h) (a : Bytes) : PyWqasbp.box w h (bints a) = boxL w h a := by
  show Neutral.shown (if CeSheetSpec.pointsOk (Neutral.text (bints a)) w.toNat h.toNat = true then (match Sheet.box ⟨w.toNat, h.toNat, Neutral.text (bints a)⟩ with
    | some x => .nums [x.1, x.2.1, x.2.2.1, x.2.2.2]
    | none => CeSheetSpec.no 3) else CeSheetSpec.no 1) = _
  rw [text_bints, box_eq]
  unfold boxL
  by_cases c : PtsOk w h a.length
  · rw [if_pos c, if_pos ((ptsOk_iff hw hh a).mpr c)]
    cases boxOf (paintedOf w.toNat a) <;> rfl
  · rw [if_neg c, if_neg (fun z => c ((ptsOk_iff hw hh a).mp z))]
    rfl
/-- the numbers of the painted points -/
def inked (a : Bytes) : List Nat := (a.zipIdx.filter fun (x : UInt8 × Nat) => x.1 != 0).map Prod.snd
theorem inked_nil : inked [] = [] := rfl
theorem paintedOf_inked (w : Nat) (a : Bytes) : paintedOf w a = (inked a).map fun i => (i % w, i / w) := by
  unfold paintedOf Sheet.painted inked
  rw [List.map_map]
  rfl
theorem inked_more (a : Bytes) (p : UInt8) : inked (a ++ [p]) = inked a ++ (if p = 0 then [] else [a.length]) := by
  unfold inked
  rw [List.zipIdx_append, List.filter_append, List.map_append]
  congr 1
  show (List.filter (fun (x : UInt8 × Nat) => x.1 != 0) [(p, 0 + a.length)]).map _ = _
  by_cases c : p = 0
  · rw [if_pos c, c]
    rfl
  · rw [if_neg c, List.filter_cons_of_pos (by show (p != 0) = true; exact bne_iff_ne.mpr c), Nat.zero_add]
    rfl
theorem inked_step {a : Bytes} {i : Nat} {p : UInt8} (h : a[i]? = some p) : inked (a.take (i + 1)) = inked (a.take i) ++ (if p = 0 then [] else [i]) := by
  have hi : i < a.length := by
    by_cases z : i < a.length
    · exact z
    · rw [List.getElem?_eq_none (by omega)] at h
      cases h
  rw [List.take_add_one, h]
  show inked (a.take i ++ [p]) = _
  rw [inked_more, List.length_take, Nat.min_eq_left (by omega)]
theorem inked_length (a : Bytes) : (inked a).length ≤ a.length := by
  unfold inked
  rw [List.length_map]
  refine Nat.le_trans (List.length_filter_le _ _) ?_
  rw [List.length_zipIdx]
  exact Nat.le_refl _
theorem boxOf_some {l : List (Nat × Nat)} {b : Nat × Nat × Nat × Nat} (B : Boxed l b) : boxOf l = some b := by
  cases e : boxOf l with
  | none =>
    obtain ⟨q, m, _⟩ := B.left
    cases l with
    | nil => cases m
    | cons p r => cases e
  | some c => rw [(Boxed.of e).one B]
/-- the four ends, each found by itself -/
theorem boxOf_ends {w : Nat} {is : List Nat} {x0 y0 x1 y1 : Nat} (m1 : x0 ∈ is.map (· % w)) (m2 : y0 ∈ is.map (· / w)) (m3 : x1 ∈ is.map (· % w)) (m4 : y1 ∈ is.map (· / w))
    (g1 : ∀ x ∈ is.map (· % w), x0 ≤ x) (g2 : ∀ y ∈ is.map (· / w), y0 ≤ y) (g3 : ∀ x ∈ is.map (· % w), x ≤ x1) (g4 : ∀ y ∈ is.map (· / w), y ≤ y1) : boxOf (is.map fun i => (i % w, i / w)) = some (x0, y0, x1, y1) := by
  refine boxOf_some ⟨fun q hq => ?_, ?_, ?_, ?_, ?_⟩
  · obtain ⟨i, hi, rfl⟩ := List.mem_map.mp hq
    exact ⟨g1 _ (List.mem_map_of_mem hi), g2 _ (List.mem_map_of_mem hi), g3 _ (List.mem_map_of_mem hi), g4 _ (List.mem_map_of_mem hi)⟩
  · obtain ⟨i, hi, e⟩ := List.mem_map.mp m1
    exact ⟨_, List.mem_map_of_mem hi, e⟩
  · obtain ⟨i, hi, e⟩ := List.mem_map.mp m2
    exact ⟨_, List.mem_map_of_mem hi, e⟩
  · obtain ⟨i, hi, e⟩ := List.mem_map.mp m3
    exact ⟨_, List.mem_map_of_mem hi, e⟩
  · obtain ⟨i, hi, e⟩ := List.mem_map.mp m4
    exact ⟨_, List.mem_map_of_mem hi, e⟩
/-! ### the first point at which two differ -/
theorem differ_some {a b : Bytes} {i : Nat} {x y : UInt8} (hl : a.length = b.length) (h : a.take i = b.take i) (hx : a[i]? = some x) (hy : b[i]? = some y) (hne : x ≠ y) : firstDiffer a b = some i := by
  have hi : i < a.length := by
    by_cases z : i < a.length
    · exact z
    · rw [List.getElem?_eq_none (by omega)] at hx
      cases hx
  unfold firstDiffer
  rw [List.findIdx?_eq_some_iff_getElem]
  refine ⟨by rw [List.length_zip]; omega, ?_, ?_⟩
  · rw [List.getElem_zip]
    have e1 := (List.getElem?_eq_getElem hi).symm.trans hx
    have hi2 : i < b.length := by omega
    have e2 := (List.getElem?_eq_getElem hi2).symm.trans hy
    rw [Option.some.inj e1, Option.some.inj e2]
    exact bne_iff_ne.mpr hne
  · intro j hj
    rw [List.getElem_zip]
    have e : (a.take i)[j]? = (b.take i)[j]? := by rw [h]
    rw [List.getElem?_take_of_lt hj, List.getElem?_take_of_lt hj, List.getElem?_eq_getElem (by omega), List.getElem?_eq_getElem (by omega)] at e
    rw [Option.some.inj e]
    simp
theorem differ_none (a : Bytes) : firstDiffer a a = none := by
  unfold firstDiffer
  rw [List.findIdx?_eq_none_iff]
  intro z hz
  obtain ⟨x, y⟩ := z
  obtain ⟨i, hi, e⟩ := List.getElem_of_mem hz
  rw [List.getElem_zip] at e
  cases e
  simp
def differL (w h : Int) (a b : Bytes) : List Int := if PtsOk w h a.length ∧ PtsOk w h b.length then (match firstDiffer a b with
  | some i => [(i : Int)]
  | none => [-3]) else [-1]
theorem differ_due {w h : Int} (hw : 0 ≤ w) (hh : 0 ≤ h) (a b : Bytes) : PyWqasbp.differ w h (bints a) (bints b) = differL w h a b := by
  show Neutral.shown (if CeSheetSpec.pointsOk (Neutral.text (bints a)) w.toNat h.toNat = true ∧ CeSheetSpec.pointsOk (Neutral.text (bints b)) w.toNat h.toNat = true then (match firstDiffer (Neutral.text (bints a)) (Neutral.text (bints b)) with
    | some i => .nums [i]
    | none => CeSheetSpec.no 3) else CeSheetSpec.no 1) = _
  rw [text_bints, text_bints]
  unfold differL
  by_cases c : PtsOk w h a.length ∧ PtsOk w h b.length
  · rw [if_pos c, if_pos ⟨(ptsOk_iff hw hh a).mpr c.1, (ptsOk_iff hw hh b).mpr c.2⟩]
    cases firstDiffer a b <;> rfl
  · rw [if_neg c, if_neg (fun z => c ⟨(ptsOk_iff hw hh a).mp z.1, (ptsOk_iff hw hh b).mp z.2⟩)]
    rfl
theorem differ_same {a b : Bytes} {n : Nat} (ha : a.length = n) (hb : b.length = n) (h : a.take n = b.take n) : firstDiffer a b = none := by
  rw [List.take_of_length_le (by omega), List.take_of_length_le (by omega)] at h
  rw [h]
  exact differ_none b
theorem take_step {a b : Bytes} {i : Nat} {x : UInt8} (h : a.take i = b.take i) (hx : a[i]? = some x) (hy : b[i]? = some x) : a.take (i + 1) = b.take (i + 1) := by
  rw [List.take_add_one, List.take_add_one, h, hx, hy]
end My

namespace My
open PySem PySem.Spec PyProof.Rows L2
/-! ### the text by places -/
def topS (i : Nat) : Stmt := PySem.Challenge.pw_paintsheets_s09_box.main.body.getD i (.Pass ⟨0, 0, 0, 0⟩)
abbrev s_box : Stmt := topS 3
abbrev s_is_side : Stmt := topS 4
abbrev s_are_points : Stmt := topS 5
end My
/-! ### the layer: defs by name, constants, lists of bytes -/
namespace My
open PySem PySem.Spec PyProof.Rows L2
open PySem.W (Codec)
/-- a def of the text as it stands behind the top -/
def Df (K : PySem.W.Frag) (mg : Str → Option Value) (x : Str) (st : Stmt) (ps : List Str) : Prop :=
  ∃ (f : Addr) (fd : FuncData), Fun K x x st f fd ∧ mg x = some (.ref f) ∧ Binds K fd ps []
/-- a def that keeps its promise -/
def Ok (P : Program) (w : World) (K : PySem.W.Frag) (mg : Str → Option Value) (base : Heap) (k : Nat) (x : Str) (ps : List Str) (sp : Sp) : Prop :=
  ∃ (f : Addr) (fd : FuncData), FnOk P w K mg base CX0 k f fd ps sp ∧ mg x = some (.ref f) ∧ PySem.W.keepIn K (.ref f) = true ∧ Binds K fd ps []
theorem pe_ok {X : Cx} {k : Nat} {x : Str} {ps : List Str} {sp : Sp} {e : Expr} {es : List Expr} {t : TA} {p pos : Pos} (c : Ok X.prog X.w X.K X.mg X.base k x ps sp) (hr : Room k X.A) (hg : Gl X x) (ha : PA X (e :: es) t)
    (hdb : (x == ("__debug__" : Str)) = false := by decide) (he : starEach (e :: es) X.env = (false, eval e X.env) :: starEach es X.env := by rfl) (hpl : (backTo pos (starEach es X.env)).any (·.1) = false := by rfl) :
    PE X (.Call (.Name x p) (e :: es) [] pos) (tCall sp [] E0 t) := by
  obtain ⟨f, fd, F, hm, hk, hb⟩ := c
  exact pe_call F hr hg hm hk hb .nil pass0 ha hdb he hpl
/-- a whole number that the top names -/
def Cn (mg : Str → Option Value) (x : Str) (n : Int) : Prop := ∃ t, mg x = some (.int n t)
theorem pe_cn {X : Cx} {x : Str} {n : Int} {pos : Pos} (c : Cn X.mg x n) (hg : Gl X x) (hdb : (x == ("__debug__" : Str)) = false := by decide) : PE X (.Name x pos) (tC (.int n)) := by
  obtain ⟨t, h⟩ := c
  exact pe_glob hg h ⟨t, rfl⟩ (hd := hdb)
def vb (bs : List UInt8) : List V := (bints bs).map V.int
theorem vb_length (bs : List UInt8) : (vb bs).length = bs.length := by unfold vb; rw [List.length_map, bints_length]
theorem vb_get {bs : List UInt8} {i : Nat} {c : UInt8} (h : bs[i]? = some c) : (vb bs)[i]? = some (.int ((c.toNat : Nat) : Int)) := by
  unfold vb bints
  rw [List.getElem?_map, List.getElem?_map, h]
  rfl
theorem vb_at {bs : List UInt8} {i : Nat} {c : UInt8} (h : bs[i]? = some c) : atI (vb bs) ((i : Nat) : Int) = some (.int ((c.toNat : Nat) : Int)) := atI_nat (vb_get h)
theorem vb_at1 {bs : List UInt8} {i : Nat} {c : UInt8} (h : bs[i + 1]? = some c) : atI (vb bs) (((i : Nat) : Int) + 1) = some (.int ((c.toNat : Nat) : Int)) := by
  rw [show ((i : Nat) : Int) + 1 = ((i + 1 : Nat) : Int) by omega]
  exact vb_at h
theorem vb_append (as bs : List UInt8) : vb (as ++ bs) = vb as ++ vb bs := by unfold vb; rw [bints_append, List.map_append]
theorem vb_take (bs : List UInt8) (n : Nat) : (vb bs).take n = vb (bs.take n) := by unfold vb bints; rw [List.map_take, List.map_take]
theorem vb_drop (bs : List UInt8) (n : Nat) : (vb bs).drop n = vb (bs.drop n) := by unfold vb bints; rw [List.map_drop, List.map_drop]
theorem vb_step {bs : List UInt8} {i : Nat} {c : UInt8} (h : bs[i]? = some c) : vb (bs.take (i + 1)) = vb (bs.take i) ++ [.int ((c.toNat : Nat) : Int)] := by
  rw [List.take_add_one, h, vb_append]
  rfl
theorem byte0 (x : UInt8) : decide (V.int ((x.toNat : Nat) : Int) = V.int 0) = decide (x = 0) := by
  refine decide_eq_decide.mpr ⟨fun z => ?_, fun z => ?_⟩
  · have e : ((x.toNat : Nat) : Int) = 0 := V.int.inj z
    exact UInt8.toNat_inj.mp (by show x.toNat = 0; omega)
  · rw [z]
    rfl
theorem same_new {H : Hp} {p : Addr} {o : HO} (h : H p = none) : Same H (upd H p o) := fun b u e => by
  rw [upd_ne (ne_of_none e h)]
  exact e
theorem dp_ints {K : PySem.W.Frag} {H : Hp} : ∀ ns : List Int, DpAll K H (ns.map V.int) (ns.map PyData.int)
  | [] => .nil
  | n :: r => .cons (.int n) (dp_ints r)
theorem eqv_ints (ns ms : List Int) : PyData.eqv (.list (ns.map PyData.int)) (.list (ms.map PyData.int)) = decide (ns = ms) := by
  rw [PyData.eqv]
  exact PySem.W.ked_eqvAll ns ms
theorem bints_inj {as bs : List UInt8} (h : bints as = bints bs) : as = bs := by
  have := congrArg Neutral.text h
  rwa [text_bints, text_bints] at this
theorem inInt_of {lo hi k : Int} (h : Codec.inInt lo hi k = true) : lo ≤ k ∧ k ≤ hi := by
  unfold Codec.inInt at h
  rw [Bool.and_eq_true] at h
  exact ⟨of_decide_eq_true h.1, of_decide_eq_true h.2⟩
end My

namespace My
open PySem PySem.Spec PyProof.Rows L2
open PySem.W (Codec)
/-! ### lists of numbers from 0 on, as values -/
def nv (f : List Nat) : List V := (nints f).map V.int
theorem nv_length (f : List Nat) : (nv f).length = f.length := by unfold nv; rw [List.length_map, nints_length]
theorem nv_get {f : List Nat} {i n : Nat} (h : f[i]? = some n) : (nv f)[i]? = some (.int ((n : Nat) : Int)) := by
  unfold nv nints
  rw [List.getElem?_map, List.getElem?_map, h]
  rfl
theorem nv_append (f g : List Nat) : nv (f ++ g) = nv f ++ nv g := by unfold nv nints; rw [List.map_append, List.map_append]
theorem nv_step {f : List Nat} {i n : Nat} (h : f[i]? = some n) : nv (f.take (i + 1)) = nv (f.take i) ++ [.int ((n : Nat) : Int)] := by
  rw [List.take_add_one, h, nv_append]
  rfl
/-- a place of a list of values -/
theorem nv_lt {f : List Nat} {i : Nat} {v : V} (h : (nv f)[i]? = some v) : i < f.length := by
  by_cases z : i < f.length
  · exact z
  · rw [List.getElem?_eq_none (by rw [nv_length]; omega)] at h
    cases h
theorem vb_lt {b : List UInt8} {i : Nat} {v : V} (h : (vb b)[i]? = some v) : i < b.length := by
  by_cases z : i < b.length
  · exact z
  · rw [List.getElem?_eq_none (by rw [vb_length]; omega)] at h
    cases h
theorem byteEq (x y : UInt8) : decide (V.int ((x.toNat : Nat) : Int) = V.int ((y.toNat : Nat) : Int)) = decide (x = y) := by
  refine decide_eq_decide.mpr ⟨fun z => ?_, fun z => by rw [z]⟩
  have e : ((x.toNat : Nat) : Int) = ((y.toNat : Nat) : Int) := V.int.inj z
  exact UInt8.toNat_inj.mp (by omega)
end My

/-! ### is_side: a width or a height -/
namespace My
open PySem PySem.Spec PyProof.Rows L2
open PySem.W (Codec)
def spSide : Sp := fun vs H Q _ => ∃ n : Int, vs = [.int n] ∧ Q (.bl (decide (1 ≤ n ∧ n ≤ 256))) H
section
variable {P : Program} {w : World} {K : PySem.W.Frag} {mg : Str → Option Value} {base : Heap}
theorem scSide : FnScope ["n"] ["n"] (defScope s_is_side) := ⟨rfl, rfl, rfl, by decide +kernel, rfl, by decide +kernel, by decide +kernel⟩
theorem ok_is_side (D : Df K mg "is_side" s_is_side ["n"]) (cL : Cn mg "LARGEST_SIDE" 256) : Ok P w K mg base 1 "is_side" ["n"] spSide := by
  obtain ⟨f, fd, F, hm, hb⟩ := D
  refine ⟨f, fd, F.ok scSide (fun vs H Q E h => ?_) (fun cdv A outer s H vs Q E hr h => ?_), hm, F.kp, hb⟩
  · obtain ⟨n, rfl, _⟩ := h
    rfl
  · obtain ⟨n, rfl, k⟩ := h
    refine ⟨_, pss_one (ps_ret (pe_chain op_le op_le pe_int (pv 0) (pe_cn cL rfl))), ?_⟩
    refine ⟨_, rfl, _, _, rfl, rfl, _, rfl, ite2 (fun h1 => ⟨_, _, rfl, rfl, ?_⟩) (fun h1 => ?_)⟩
    · have e : decide (1 ≤ n ∧ n ≤ 256) = decide (n ≤ 256) := decide_eq_decide.mpr ⟨fun z => z.2, fun z => ⟨of_decide_eq_true h1, z⟩⟩
      rw [e] at k
      exact k
    · have e : decide (1 ≤ n ∧ n ≤ 256) = false := decide_eq_false fun z => h1 (decide_eq_true z.1)
      rw [e] at k
      exact k
end
end My

/-! ### are_points: a width, a height and so many points -/
namespace My
open PySem PySem.Spec PyProof.Rows L2
open PySem.W (Codec)
def spPoints (K : PySem.W.Frag) : Sp := fun vs H Q _ => ∃ (a : Addr) (xs : List V) (wd hh : Int), vs = [.ref a, .int wd, .int hh] ∧ SqL K H a xs ∧ Q (.bl (decide (PtsOk wd hh xs.length))) H
section
variable {P : Program} {w : World} {K : PySem.W.Frag} {mg : Str → Option Value} {base : Heap}
theorem scPoints : FnScope ["a", "w", "h"] ["a", "w", "h"] (defScope s_are_points) := ⟨rfl, rfl, rfl, by decide +kernel, rfl, by decide +kernel, by decide +kernel⟩
theorem ok_are_points (D : Df K mg "are_points" s_are_points ["a", "w", "h"]) (D1 : Df K mg "is_side" s_is_side ["n"]) (cL : Cn mg "LARGEST_SIDE" 256) (zlen : mg "len" = none) : Ok P w K mg base 2 "are_points" ["a", "w", "h"] (spPoints K) := by
  have C1 : Ok P w K mg base 1 "is_side" ["n"] spSide := ok_is_side D1 cL
  obtain ⟨f, fd, F, hm, hb⟩ := D
  refine ⟨f, fd, F.ok scPoints (fun vs H Q E h => ?_) (fun cdv A outer s H vs Q E hr h => ?_), hm, F.kp, hb⟩
  · obtain ⟨a, xs, wd, hh, rfl, _⟩ := h
    rfl
  · obtain ⟨a, xs, wd, hh, rfl, hS, k⟩ := h
    refine ⟨_, pss_one (ps_ret (pe_and (pe_ok C1 hr rfl (pa_cons (pv 1) pa_nil)) (pe_and (pe_ok C1 hr rfl (pa_cons (pv 2) pa_nil)) (pe_one (pe_cmpR op_eq (pe_callB call_len_seq (by rfl) zlen PySem.boot_len (pa_cons (pv 0) pa_nil)) (pe_op op_mul (pv 1) (pv 2)) (nomark _)))))), ?_⟩
    have no : ¬ PtsOk wd hh xs.length → Q (.bl false) H := fun z => by
      rw [decide_eq_false z] at k
      exact k
    refine ⟨_, rfl, _, rfl, _, rfl, ite2 (fun c1 => ?_) (fun c1 => ?_)⟩
    · have c1' := of_decide_eq_true c1
      refine ⟨_, rfl, _, rfl, _, rfl, ite2 (fun c2 => ?_) (fun c2 => ?_)⟩
      · have c2' := of_decide_eq_true c2
        refine ⟨_, rfl, a, _, rfl, .inl hS, _, rfl, _, rfl, _, _, rfl, rfl, .inl ⟨by omega, by omega⟩, rfl, ?_⟩
        have e : decide (V.int ((xs.length : Nat) : Int) = V.int (wd * hh)) = decide (PtsOk wd hh xs.length) := decide_eq_decide.mpr ⟨fun z => ⟨c1'.1, c1'.2, c2'.1, c2'.2, V.int.inj z⟩, fun z => congrArg V.int z.2.2.2.2⟩
        rw [← e] at k
        exact k
      · exact no fun z => c2 (decide_eq_true ⟨z.2.2.1, z.2.2.2.1⟩)
    · exact no fun z => c1 (decide_eq_true ⟨z.1, z.2.1⟩)
end
end My

namespace My
open PySem PySem.Spec PyProof.Rows L2
open PySem.W (Codec)
theorem same_off {H0 H : Hp} {l : Addr} {o : HO} (s : Same H0 H) (h : H0 l = none) : Same H0 (upd H l o) := fun b u e => by
  rw [upd_ne (ne_of_none e h)]
  exact s b u e
theorem rgc_up {a b c : Int} {n : Nat} (hc : 0 < c) (hc2 : c < 1073741824) (ha : -(2 ^ 61) ≤ a) (ha' : a < 2 ^ 61) (hb : -(2 ^ 61) ≤ b) (hb' : b < 2 ^ 61) (hn : (if a < b then (b - a - 1) / c + 1 else 0) = (n : Int)) (hn2 : (n : Int) < 2 ^ 62) : RgC a b c n := by
  have e : Builtin.Range.rangeSize a b c = (n : Int) := by
    unfold Builtin.Range.rangeSize
    rw [if_pos (show c > 0 from hc)]
    exact hn
  refine ⟨by omega, by omega, ?_, e⟩
  unfold Builtin.Range.small
  rw [e]
  simp only [Builtin.Range.rangeFitsLong, Bool.and_eq_true, Bool.or_eq_true, decide_eq_true_eq, beq_iff_eq, if_pos (show c > 0 from hc)]
  omega
end My

/-! ### box: the least box around what is painted -/
namespace My
open PySem PySem.Spec PyProof.Rows L2
open PySem.W (Codec)
def spBox (K : PySem.W.Frag) : Sp := fun vs H Q _ => ∃ (a : Addr) (wd hh : Int) (bs : List UInt8), vs = [.int wd, .int hh, .ref a] ∧ SqL K H a (vb bs) ∧ bs.length ≤ 6144 ∧ 0 ≤ wd ∧ ∀ H' p, Same H H' → H' p = some (.lst ((boxL wd hh bs).map V.int)) → Q (.ref p) H'
section
variable {P : Program} {w : World} {K : PySem.W.Frag} {mg : Str → Option Value} {base : Heap}
theorem scBox : FnScope ["w", "h", "a", "painted", "xs", "ys", "number", "paint"] ["w", "h", "a"] (defScope s_box) := ⟨rfl, rfl, rfl, by decide +kernel, rfl, by decide +kernel, by decide +kernel⟩
theorem ok_box {f : Addr} {fd : FuncData} (F : Fun K "box" "box" s_box f fd) (D1 : Df K mg "are_points" s_are_points ["a", "w", "h"]) (D2 : Df K mg "is_side" s_is_side ["n"])
    (cL : Cn mg "LARGEST_SIDE" 256) (cC : Cn mg "CLEAR" 0) (zlen : mg "len" = none) (zenum : mg "enumerate" = none) (zmin : mg "min" = none) (zmax : mg "max" = none) : FnOk P w K mg base CX0 3 f fd ["w", "h", "a"] (spBox K) := by
  have C1 : Ok P w K mg base 2 "are_points" ["a", "w", "h"] (spPoints K) := ok_are_points D1 D2 cL zlen
  refine F.ok scBox (fun vs H Q E h => ?_) (fun cdv A outer s H vs Q E hr h => ?_)
  · obtain ⟨a, wd, hh, bs, rfl, _⟩ := h
    rfl
  · obtain ⟨a, wd, hh, bs, rfl, hS, hsz, hw0, k⟩ := h
    have line : sizeLine = 16777216 := by decide
    refine ⟨_, pss_cons (ps_if (pt_not (pt_val (pe_ok C1 hr rfl (pa_cons (pv 2) (pa_cons (pv 0) (pa_cons (pv 1) pa_nil)))))) (pss_one (ps_ret (pe_lst (pa_cons (pe_un un_neg pe_int) pa_nil)))) pss_nil)
      (pss_cons (ps_setLc (i := 3) (own := [("number", 6), ("paint", 7)]) (g := gTup K 2 (gCons (gName 6) (gCons (gName 7) gNil))) rfl scBox.nd rfl rfl (sw_true rfl rfl rfl (by decide +kernel)) (pi_enum (by rfl) zenum (pa_cons (pv 2) pa_nil))
          (blkOk_by (N := ["w", "h", "a", "painted", "xs", "ys", "number", "paint"]) (sc := defScope s_box) (by decide +kernel))
          (fun _ _ _ _ _ => pg_tup rfl (pgs_cons (pg_name (i := 6) scBox.nd rfl (Or.inl rfl)) (pgs_cons (pg_name (i := 7) scBox.nd rfl (Or.inl rfl)) pgs_nil)))
          (fun _ _ _ _ _ => pts_one (pt_cmpR op_ne (pv 7) (pe_cn cC rfl) (nomark _))) (fun _ _ _ _ _ => pv 6))
      (pss_cons (ps_if (pt_cmpR op_eq (pe_callB call_len_seq (by rfl) zlen PySem.boot_len (pa_cons (pv 3) pa_nil)) pe_int (nomark _)) (pss_one (ps_ret (pe_lst (pa_cons (pe_un un_neg pe_int) pa_nil)))) pss_nil)
      (pss_cons (ps_setLc (i := 4) (own := [("number", 6)]) (g := gName 6) (tt := tYes) rfl scBox.nd rfl rfl (sw_true rfl rfl rfl (by decide +kernel)) (pi_list (pv 3))
          (blkOk_by (N := ["w", "h", "a", "painted", "xs", "ys", "number", "paint"]) (sc := defScope s_box) (by decide +kernel))
          (fun _ _ _ _ _ => pg_name (i := 6) scBox.nd rfl (Or.inl rfl)) (fun _ _ _ _ _ => pts_nil) (fun _ _ _ _ _ => pe_op op_mod (pv 6) (pv 0)))
      (pss_cons (ps_setLc (i := 5) (own := [("number", 6)]) (g := gName 6) (tt := tYes) rfl scBox.nd rfl rfl (sw_true rfl rfl rfl (by decide +kernel)) (pi_list (pv 3))
          (blkOk_by (N := ["w", "h", "a", "painted", "xs", "ys", "number", "paint"]) (sc := defScope s_box) (by decide +kernel))
          (fun _ _ _ _ _ => pg_name (i := 6) scBox.nd rfl (Or.inl rfl)) (fun _ _ _ _ _ => pts_nil) (fun _ _ _ _ _ => pe_op op_fdiv (pv 6) (pv 0)))
      (pss_one (ps_ret (pe_lst (pa_cons (pe_callB (cr_min rfl) (by rfl) zmin (by decide +kernel) (pa_cons (pv 4) pa_nil)) (pa_cons (pe_callB (cr_min rfl) (by rfl) zmin (by decide +kernel) (pa_cons (pv 5) pa_nil))
          (pa_cons (pe_callB (cr_max rfl) (by rfl) zmax (by decide +kernel) (pa_cons (pv 4) pa_nil)) (pa_cons (pe_callB (cr_max rfl) (by rfl) zmax (by decide +kernel) (pa_cons (pv 5) pa_nil)) pa_nil))))))))))), ?_⟩
    unfold boxL at k
    refine ⟨_, rfl, _, rfl, _, rfl, a, _, wd, hh, rfl, hS, _, rfl, ?_⟩
    rw [vb_length]
    by_cases c : PtsOk wd hh bs.length
    · rw [if_pos c] at k
      rw [decide_eq_true c]
      obtain ⟨wn, rfl⟩ := Int.eq_ofNat_of_zero_le hw0
      obtain ⟨w1, w2, h1, h2, hl⟩ := c
      simp only [Int.toNat_natCast] at k
      rw [paintedOf_inked] at k
      have hil := inked_length bs
      refine iteF ⟨_, rfl, a, _, rfl, hS, fun D hD => ?_⟩
      refine lc_it (walk_enum (K := K) (a := a) (xs := vb bs)) (fun i H' => Same H H' ∧ H' D = some (.lst (nv (inked (bs.take i))))) ⟨same_new hD, upd_same⟩ (fun i H' _ z => z.1.seq hS) ?_ ?_
      · rintro i v H' H'' hi ⟨s2, hL⟩ ⟨T, x, y, rfl, hT2, rfl, ex, ey⟩
        rw [vb_length] at hi
        obtain ⟨u, hu⟩ : ∃ u, bs[i]? = some u := ⟨_, List.getElem?_eq_getElem hi⟩
        cases Option.some.inj ex
        cases Option.some.inj ((vb_get hu).symm.trans ey)
        have ne : D ≠ T := ne_of_none hL hT2
        have hst := inked_step hu
        refine ⟨T, _, rfl, SqT.of upd_same, rfl, _, _, rfl, _, _, rfl, rfl, rfl, _, rfl, rfl, _, rfl, ?_⟩
        rw [byte0]
        by_cases hx : u = 0
        · rw [decide_eq_true hx]
          rw [if_pos hx, List.append_nil] at hst
          refine iteF ⟨s2.trans (same_new hT2), ?_⟩
          rw [upd_ne ne, hL, hst]
        · rw [decide_eq_false hx]
          rw [if_neg hx] at hst
          refine iteT ⟨_, rfl, _, by rw [upd_ne ne]; exact hL, ?_, same_off (s2.trans (same_new hT2)) hD, ?_⟩
          · have := inked_length (bs.take i)
            rw [List.length_take] at this
            rw [nv_length]
            omega
          · rw [upd_same, hst, nv_append]
            rfl
      · rintro H1 ⟨s1, hL1⟩
        rw [vb_length, List.take_length] at hL1
        refine ⟨_, rfl, D, _, rfl, .inl (SqL.of hL1), rfl, _, rfl, ?_⟩
        rw [nv_length]
        cases hin : inked bs with
        | nil =>
          rw [hin] at k
          refine iteT ⟨_, rfl, (by show 1 ≤ sizeLine; decide), fun q hq => ?_⟩
          exact k _ q (s1.trans (same_new hq)) upd_same
        | cons i0 r0 =>
          have hpos : 0 < (inked bs).length := by rw [hin]; exact Nat.succ_pos _
          rw [← hin]
          have e0 : decide (V.int (((inked bs).length : Nat) : Int) = V.int 0) = false := decide_eq_false fun z => by
            have := V.int.inj z
            omega
          rw [e0]
          refine iteF ⟨_, rfl, D, rfl, ⟨_, SqL.of hL1⟩, fun D2 hD2 => ?_⟩
          refine lc_list (K := K) (a := D) (xs := nv (inked bs)) (fun i H' => Same H1 H' ∧ H' D2 = some (.lst (nv (((inked bs).map (· % wn)).take i)))) ⟨same_new hD2, upd_same⟩ (fun i H' _ z => z.1.seq (SqL.of hL1)) ?_ ?_
          · rintro i v H' ex ⟨s2, hL⟩
            have hi := nv_lt ex
            obtain ⟨n, hn⟩ : ∃ n, (inked bs)[i]? = some n := ⟨_, List.getElem?_eq_getElem hi⟩
            cases Option.some.inj ((nv_get hn).symm.trans ex)
            refine ⟨rfl, _, rfl, _, rfl, _, _, rfl, rfl, by show (0 : Int) < _; omega, _, hL, ?_, same_off s2 hD2, ?_⟩
            · rw [nv_length, List.length_take]
              omega
            · rw [upd_same, nv_step (n := n % wn) (by rw [List.getElem?_map, hn]; rfl), Int.natCast_emod]
          · rintro H2 ⟨s2, hL2⟩
            rw [nv_length, List.take_of_length_le (by rw [List.length_map]; exact Nat.le_refl _)] at hL2
            have hS2 : SqL K H2 D (nv (inked bs)) := s2.seq (SqL.of hL1)
            refine ⟨_, rfl, D, rfl, ⟨_, hS2⟩, fun D3 hD3 => ?_⟩
            refine lc_list (K := K) (a := D) (xs := nv (inked bs)) (fun i H' => Same H2 H' ∧ H' D3 = some (.lst (nv (((inked bs).map (· / wn)).take i)))) ⟨same_new hD3, upd_same⟩ (fun i H' _ z => z.1.seq hS2) ?_ ?_
            · rintro i v H' ex ⟨s3, hL⟩
              have hi := nv_lt ex
              obtain ⟨n, hn⟩ : ∃ n, (inked bs)[i]? = some n := ⟨_, List.getElem?_eq_getElem hi⟩
              cases Option.some.inj ((nv_get hn).symm.trans ex)
              refine ⟨rfl, _, rfl, _, rfl, _, _, rfl, rfl, ⟨by omega, by omega⟩, _, hL, ?_, same_off s3 hD3, ?_⟩
              · rw [nv_length, List.length_take]
                omega
              · rw [upd_same, nv_step (n := n / wn) (by rw [List.getElem?_map, hn]; rfl), Int.natCast_ediv]
            · rintro H3 ⟨s3, hL3⟩
              rw [nv_length, List.take_of_length_le (by rw [List.length_map]; exact Nat.le_refl _)] at hL3
              have hX : SqL K H3 D2 ((nints ((inked bs).map (· % wn))).map V.int) := s3.seq (SqL.of hL2)
              have hY : SqL K H3 D3 ((nints ((inked bs).map (· / wn))).map V.int) := SqL.of hL3
              have lX : 0 < (nints ((inked bs).map (· % wn))).length := by rw [nints_length, List.length_map]; exact hpos
              have lY : 0 < (nints ((inked bs).map (· / wn))).length := by rw [nints_length, List.length_map]; exact hpos
              refine ⟨_, rfl, D2, _, rfl, hX, lX, fun m1 i1 g1 => ⟨_, rfl, D3, _, rfl, hY, lY, fun m2 i2 g2 => ⟨_, rfl, D2, _, rfl, hX, lX, fun m3 i3 g3 => ⟨_, rfl, D3, _, rfl, hY, lY, fun m4 i4 g4 => ?_⟩⟩⟩⟩
              obtain ⟨x0, j1, rfl⟩ := mem_nints.mp i1
              obtain ⟨y0, j2, rfl⟩ := mem_nints.mp i2
              obtain ⟨x1, j3, rfl⟩ := mem_nints.mp i3
              obtain ⟨y1, j4, rfl⟩ := mem_nints.mp i4
              have hb : boxOf ((inked bs).map fun i => (i % wn, i / wn)) = some (x0, y0, x1, y1) := boxOf_ends j1 j2 j3 j4
                (fun x hx => by have := g1 _ (mem_nints.mpr ⟨x, hx, rfl⟩); omega) (fun x hx => by have := g2 _ (mem_nints.mpr ⟨x, hx, rfl⟩); omega)
                (fun x hx => by have := g3 _ (mem_nints.mpr ⟨x, hx, rfl⟩); omega) (fun x hx => by have := g4 _ (mem_nints.mpr ⟨x, hx, rfl⟩); omega)
              rw [hb] at k
              refine ⟨(by show 4 ≤ sizeLine; decide), fun q hq => ?_⟩
              exact k _ q (s1.trans (s2.trans (s3.trans (same_new hq)))) upd_same
    · rw [if_neg c] at k
      rw [decide_eq_false c]
      refine iteT ⟨_, rfl, (by show 1 ≤ sizeLine; decide), fun q hq => ?_⟩
      exact k _ q (same_new hq) upd_same
end
end My

namespace My
open PySem PySem.Spec PyProof.Rows L2
open PySem.W (Codec)
theorem all_mk {P : Program} {w : World} {K : PySem.W.Frag} {h : Heap} {mg : Str → Option Value} {fa f1 f2 f3 : Addr} (X : K.In h) (G : h.Ns mainGlobals mg) (hfa : mg "box" = some (.ref fa))
    {od1 an1 od2 an2 od3 an3 : Option Addr} {sl1 sl2 sl3 : Array (Option Value)} {oc1 kV1 dc1 pm1 cd1 ct1 oc2 kV2 dc2 pm2 cd2 ct2 oc3 kV3 dc3 pm3 cd3 ct3 : Value}
    (a1 : PySem.W.nsIn K mainGlobals "box" = some (some (.ref f1))) (l1 : K.lookup f1 = some ⟨oc1, od1, .func (PySem.W.fnOf "box" "box" (defArgs s_box) (defBody s_box) (defScope s_box) .none kV1 dc1 pm1 an1 cd1 ct1), sl1⟩) (c1 : PySem.W.codeIn K cd1 "box" = true) (k1 : PySem.W.keepIn K (.ref f1) = true)
    (a2 : PySem.W.nsIn K mainGlobals "is_side" = some (some (.ref f2))) (l2 : K.lookup f2 = some ⟨oc2, od2, .func (PySem.W.fnOf "is_side" "is_side" (defArgs s_is_side) (defBody s_is_side) (defScope s_is_side) .none kV2 dc2 pm2 an2 cd2 ct2), sl2⟩) (c2 : PySem.W.codeIn K cd2 "is_side" = true) (k2 : PySem.W.keepIn K (.ref f2) = true)
    (a3 : PySem.W.nsIn K mainGlobals "are_points" = some (some (.ref f3))) (l3 : K.lookup f3 = some ⟨oc3, od3, .func (PySem.W.fnOf "are_points" "are_points" (defArgs s_are_points) (defBody s_are_points) (defScope s_are_points) .none kV3 dc3 pm3 an3 cd3 ct3), sl3⟩) (c3 : PySem.W.codeIn K cd3 "are_points" = true) (k3 : PySem.W.keepIn K (.ref f3) = true)
    {t_LARGEST_SIDE : Tok} (n_LARGEST_SIDE : PySem.W.nsIn K mainGlobals "LARGEST_SIDE" = some (some (.int 256 t_LARGEST_SIDE)))
    {t_CLEAR : Tok} (n_CLEAR : PySem.W.nsIn K mainGlobals "CLEAR" = some (some (.int 0 t_CLEAR)))
    (z_len : PySem.W.nsIn K mainGlobals "len" = some none)
    (z_enumerate : PySem.W.nsIn K mainGlobals "enumerate" = some none)
    (z_min : PySem.W.nsIn K mainGlobals "min" = some none)
    (z_max : PySem.W.nsIn K mainGlobals "max" = some none) :
    ∃ fd : FuncData, (∀ (s : Shared) (us : List Value), us.length = (["w", "h", "a"] : List Str).length → BindsTo s fd ⟨us, []⟩ ((["w", "h", "a"] : List Str).zip us)) ∧ ∀ base : Heap, K.In base → base.Ns mainGlobals mg → FnOk P w K mg base CX0 3 fa fd ["w", "h", "a"] (spBox K) := by
  have e := hfa.symm.trans (PySem.W.mg_of X G a1)
  cases e
  have F1 := fun_mk (st := s_box) l1 c1 k1
  have F2 := fun_mk (st := s_is_side) l2 c2 k2
  have b2 := F2.binds (ps := ["n"]) fun _ _ _ _ _ _ us hl => match us, hl with | [_], _ => rfl
  have D_is_side : Df K mg "is_side" s_is_side ["n"] := ⟨_, _, F2, PySem.W.mg_of X G a2, b2⟩
  have F3 := fun_mk (st := s_are_points) l3 c3 k3
  have b3 := F3.binds (ps := ["a", "w", "h"]) fun _ _ _ _ _ _ us hl => match us, hl with | [_, _, _], _ => rfl
  have D_are_points : Df K mg "are_points" s_are_points ["a", "w", "h"] := ⟨_, _, F3, PySem.W.mg_of X G a3, b3⟩
  have N_LARGEST_SIDE : Cn mg "LARGEST_SIDE" 256 := ⟨_, PySem.W.mg_of X G n_LARGEST_SIDE⟩
  have N_CLEAR : Cn mg "CLEAR" 0 := ⟨_, PySem.W.mg_of X G n_CLEAR⟩
  have Z_len : mg "len" = none := PySem.W.mg_none_of X G z_len
  have Z_enumerate : mg "enumerate" = none := PySem.W.mg_none_of X G z_enumerate
  have Z_min : mg "min" = none := PySem.W.mg_none_of X G z_min
  have Z_max : mg "max" = none := PySem.W.mg_none_of X G z_max
  exact ⟨_, fun s us hu => match us, hu with | [_, _, _], _ => .of_eq rfl, fun base _ _ => ok_box F1 D_are_points D_is_side N_LARGEST_SIDE N_CLEAR Z_len Z_enumerate Z_min Z_max⟩
end My
open PySem PySem.W PyProof.Rows
set_option maxRecDepth 100000 in
set_option maxHeartbeats 8000000 in
theorem PySem.Challenge.cw_paintsheets_s09_box_holds : PySem.Challenge.rw_paintsheets_s09_box.Holds := by
  w_on; k_headS; (case hw => exact ⟨[.int 0, .int 0, .list []], by decide +kernel, by decide +kernel⟩)
  k_fillS
  refine L2.walk_specK (r := PySem.Challenge.rw_paintsheets_s09_box) (k := 3) (CX := L2.CX0) (ps := ["w", "h", "a"]) (sp := My.spBox) (by decide +kernel) rfl rfl ⟨rfl, by decide, by decide⟩ (fun w h Y => PySem.W.kIn_of Y) ?F ?S (fun _ _ _ _ z => z)
  case F =>
    intro w mg fa h Y KX G hmg
    refine' My.all_mk KX G hmg ?a1 ?l1 ?c1 ?k1 ?a2 ?l2 ?c2 ?k2 ?a3 ?l3 ?c3 ?k3 ?n_LARGEST_SIDE ?n_CLEAR ?z_len ?z_enumerate ?z_min ?z_max
    (case a1 => k_is)
    (case l1 => k_is)
    (case c1 => k_is)
    (case k1 => k_is)
    (case a2 => k_is)
    (case l2 => k_is)
    (case c2 => k_is)
    (case k2 => k_is)
    (case a3 => k_is)
    (case l3 => k_is)
    (case c3 => k_is)
    (case k3 => k_is)
    (case n_LARGEST_SIDE => k_is)
    (case n_CLEAR => k_is)
    (case z_len => k_is)
    (case z_enumerate => k_is)
    (case z_min => k_is)
    (case z_max => k_is)
  case S =>
    intro K H xs a hO hwi hask hx
    obtain ⟨v1, v2, v3, u⟩ := a
    cases hx with
    | cons g1 r1 =>
      cases r1 with
      | cons g2 r2 =>
        cases r2 with
        | cons g3 r3 =>
          cases r3
          cases g1
          cases g2
          cases g3 with
          | lst s3 d3 =>
            have e3 := L2.ints_dw v3 _ d3
            subst e3
            have q : (Codec.inInt 0 18446744073709551615 v1 && (Codec.inInt 0 18446744073709551615 v2 && ((Codec.inLen 0 6144 v3 && v3.all (Codec.inInt 0 255)) && true))) = true := hwi
            have q1 := (Bool.and_eq_true_iff.mp q).1
            replace q := (Bool.and_eq_true_iff.mp q).2
            replace q1 := My.inInt_of q1
            have q2 := (Bool.and_eq_true_iff.mp q).1
            replace q := (Bool.and_eq_true_iff.mp q).2
            replace q2 := My.inInt_of q2
            have q3 := (Bool.and_eq_true_iff.mp q).1
            replace q := (Bool.and_eq_true_iff.mp q).2
            have l3 : v3.length ≤ 6144 := (Codec.inNat_iff.mp (Bool.and_eq_true_iff.mp q3).1).2
            replace q3 := fun x hxm => My.inInt_of (List.all_eq_true.mp (Bool.and_eq_true_iff.mp q3).2 x hxm)
            obtain ⟨b3, rfl⟩ := My.exists_bytes v3 q3
            rw [My.bints_length] at l3
            refine ⟨_, v1, v2, b3, rfl, s3, l3, q1.1, fun H' p _ hp => ?_⟩
            have e : PyWqasbp.box v1 v2 (My.bints b3) = My.boxL v1 v2 b3 := My.box_due q1.1 q2.1 b3
            show L2.Dw K H' (.ref p) (WData.list ((PyWqasbp.box v1 v2 (My.bints b3)).map WData.int))
            rw [e]
            exact .lst (L2.SqL.of hp) (L2.dw_ints _)
#print axioms PySem.Challenge.cw_paintsheets_s09_box_holds
