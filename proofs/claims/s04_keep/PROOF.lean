import PyProof.Rows.All
import Wide.All
import OpenK.AllK
import Wide.FinOn
import Open.SpecLaws
import KE.OsGo
import KE.OsHead
import KE.KEqDeep
import HandS.ForSpec
import HandS.Iter
import PySem.Challenge.RW_paintsheets_s04_keep
set_option Elab.async false
set_option maxRecDepth 100000
set_option maxHeartbeats 2000000
namespace My
open CeSheet

/-! ### bytes and whole numbers -/
def bints (bs : List UInt8) : List Int := bs.map fun c => (c.toNat : Int)
theorem bints_length (bs : List UInt8) : (bints bs).length = bs.length := by simp [bints]
theorem bints_append (as bs : List UInt8) : bints (as ++ bs) = bints as ++ bints bs := by simp [bints]
theorem text_bints (bs : List UInt8) : Neutral.text (bints bs) = bs := by
  induction bs with
  | nil => rfl
  | cons c r ih =>
    show UInt8.ofNat ((c.toNat : Int)).toNat :: Neutral.text (bints r) = c :: r
    rw [ih, Int.toNat_natCast, UInt8.ofNat_toNat]
theorem bints_text : ∀ (b : List Int), (∀ x ∈ b, 0 ≤ x ∧ x ≤ 255) → bints (Neutral.text b) = b
  | [], _ => rfl
  | x :: r, h => by
    have hx := h x (List.mem_cons_self ..)
    have ih := bints_text r fun y hy => h y (List.mem_cons_of_mem _ hy)
    show (((UInt8.ofNat x.toNat).toNat : Nat) : Int) :: bints (Neutral.text r) = x :: r
    rw [ih]
    congr 1
    rw [UInt8.toNat_ofNat']
    have : x.toNat % 2 ^ 8 = x.toNat := Nat.mod_eq_of_lt (by omega)
    rw [this]
    omega
theorem exists_bytes (b : List Int) (h : ∀ x ∈ b, 0 ≤ x ∧ x ≤ 255) : ∃ bs : List UInt8, b = bints bs := ⟨Neutral.text b, (bints_text b h).symm⟩
theorem drop_two {bs : List UInt8} {p : Nat} (h : p + 1 < bs.length) : ∃ n q, bs[p]? = some n ∧ bs[p + 1]? = some q ∧ bs.drop p = n :: q :: bs.drop (p + 2) := by
  refine ⟨bs[p], bs[p + 1], List.getElem?_eq_getElem (by omega), List.getElem?_eq_getElem h, ?_⟩
  rw [List.drop_eq_getElem_cons (by omega), List.drop_eq_getElem_cons (i := p + 1) h]

/-! ### the first fault -/
def faultOf {α : Type} : Except Fault α → Option Fault
  | .error e => some e
  | .ok _ => none
/-- what a run that is wanted at a place is blamed for -/
def runF (bs : List UInt8) (place left : Nat) (last : Option UInt8) : Option Fault :=
  match bs.drop place with
  | n :: q :: _ => if left < n.toNat + 1 then some (4, place) else if last = some q then some (5, place) else none
  | _ => some (3, bs.length)
theorem runF_two {bs : List UInt8} {place left : Nat} {last : Option UInt8} {n q : UInt8} {r : List UInt8} (h : bs.drop place = n :: q :: r) :
    runF bs place left last = if left < n.toNat + 1 then some (4, place) else if last = some q then some (5, place) else none := by
  unfold runF
  rw [h]
theorem runF_short {bs : List UInt8} {place left : Nat} {last : Option UInt8} (h : bs.length < place + 2) : runF bs place left last = some (3, bs.length) := by
  unfold runF
  have : (bs.drop place).length < 2 := by rw [List.length_drop]; omega
  match e : bs.drop place with
  | [] => rfl
  | [_] => rfl
  | _ :: _ :: _ =>
    rw [e] at this
    simp only [List.length_cons] at this
    omega
/-- behind a row that is being read: k rows more -/
def contF (w k : Nat) : Except Fault (Bytes × Nat × Bytes) → Option Fault
  | .error e => some e
  | .ok x => faultOf (rowsIn w k x.2.1 x.2.2)
theorem rows_succ (w k p : Nat) (b : Bytes) : faultOf (rowsIn w (k + 1) p b) = contF w k (rowIn w none p b) := by
  rw [rowsIn]
  cases e : rowIn w none p b with
  | error z => rfl
  | ok x =>
    show faultOf (match rowsIn w k x.2.1 x.2.2 with | .error e => Except.error e | .ok l => Except.ok (x.1 ++ l)) = faultOf (rowsIn w k x.2.1 x.2.2)
    cases rowsIn w k x.2.1 x.2.2 <;> rfl
theorem contF_zero (w k p : Nat) (last : Option UInt8) (b : Bytes) : contF w k (rowIn 0 last p b) = faultOf (rowsIn w k p b) := by
  rw [rowIn]
  rfl
theorem rowIn_two (left : Nat) (last : Option UInt8) (p : Nat) (n q : UInt8) (r : Bytes) : rowIn (left + 1) last p (n :: q :: r) =
    if left < n.toNat then .error (4, p) else if last = some q then .error (5, p) else match rowIn (left - n.toNat) (some q) (p + 2) r with
      | .ok x => .ok (List.replicate (n.toNat + 1) q ++ x.1, x.2)
      | .error e => .error e := by
  rw [rowIn]
  rfl
theorem contF_step {w k : Nat} {bs : List UInt8} {place left : Nat} {last : Option UInt8} (hp : place ≤ bs.length) :
    (∀ e, runF bs place (left + 1) last = some e → contF w k (rowIn (left + 1) last place (bs.drop place)) = some e) ∧
    (runF bs place (left + 1) last = none → ∃ n q, bs[place]? = some n ∧ bs[place + 1]? = some q ∧ place + 2 ≤ bs.length ∧ n.toNat ≤ left ∧
      contF w k (rowIn (left + 1) last place (bs.drop place)) = contF w k (rowIn (left - n.toNat) (some q) (place + 2) (bs.drop (place + 2)))) := by
  by_cases h2 : place + 1 < bs.length
  · obtain ⟨n, q, hn, hq, hd⟩ := drop_two h2
    rw [runF_two hd, hd, rowIn_two]
    by_cases c1 : left < n.toNat
    · rw [if_pos (by omega), if_pos c1]
      exact ⟨fun e he => he, fun he => by cases he⟩
    · rw [if_neg (by omega), if_neg c1]
      by_cases c2 : last = some q
      · rw [if_pos c2, if_pos c2]
        exact ⟨fun e he => he, fun he => by cases he⟩
      · rw [if_neg c2, if_neg c2]
        refine ⟨fun e he => (by cases he), fun _ => ⟨n, q, hn, hq, by omega, by omega, ?_⟩⟩
        cases rowIn (left - n.toNat) (some q) (place + 2) (bs.drop (place + 2)) with
        | error z => rfl
        | ok x => rfl
  · rw [runF_short (by omega)]
    refine ⟨fun e he => ?_, fun he => by cases he⟩
    rw [← he]
    by_cases h1 : place = bs.length
    · subst h1
      rw [List.drop_length, rowIn]
      rfl
    · have : (bs.drop place).length = 1 := by rw [List.length_drop]; omega
      match e : bs.drop place with
      | [] => rw [e] at this; simp at this
      | _ :: _ :: _ => rw [e] at this; simp at this
      | [z] =>
        rw [rowIn]
        show some (3, place + 1) = some (3, bs.length)
        rw [show place + 1 = bs.length by omega]
def headF (bs : List UInt8) : Option Fault :=
  if bs.length < 8 ∨ bs.take 4 ≠ MARK then some (1, 0) else if num2 bs 4 < 1 ∨ SIDE < num2 bs 4 then some (2, 4) else if num2 bs 6 < 1 ∨ SIDE < num2 bs 6 then some (2, 6) else none
def runsF (bs : List UInt8) (w h : Nat) : Option Fault := faultOf (rowsIn w h 8 (bs.drop 8))
def judgeF (bs : List UInt8) : Option Fault := faultOf (CeSheet.judge bs)
theorem headF_len {bs : List UInt8} (h : headF bs = none) : 8 ≤ bs.length := by
  unfold headF at h
  by_cases c : bs.length < 8 ∨ bs.take 4 ≠ MARK
  · rw [if_pos c] at h; cases h
  · omega
theorem judgeF_eq (bs : List UInt8) : judgeF bs = match headF bs with
    | some e => some e
    | none => runsF bs (num2 bs 4) (num2 bs 6) := by
  unfold judgeF headF CeSheet.judge
  by_cases c1 : bs.length < 8 ∨ bs.take 4 ≠ MARK
  · rw [if_pos c1, if_pos c1]; rfl
  · rw [if_neg c1, if_neg c1]
    by_cases c2 : num2 bs 4 < 1 ∨ SIDE < num2 bs 4
    · rw [if_pos c2, if_pos c2]; rfl
    · rw [if_neg c2, if_neg c2]
      by_cases c3 : num2 bs 6 < 1 ∨ SIDE < num2 bs 6
      · rw [if_pos c3, if_pos c3]; rfl
      · rw [if_neg c3, if_neg c3]
        show _ = faultOf (rowsIn (num2 bs 4) (num2 bs 6) 8 (bs.drop 8))
        cases rowsIn (num2 bs 4) (num2 bs 6) 8 (bs.drop 8) <;> rfl
/-- behind the rows: what is left -/
theorem rows_zero {w p : Nat} {bs : List UInt8} (hp : p ≤ bs.length) : faultOf (rowsIn w 0 p (bs.drop p)) = if p < bs.length then some (6, p) else none := by
  by_cases h : p < bs.length
  · rw [if_pos h, List.drop_eq_getElem_cons h, rowsIn]
    rfl
  · rw [if_neg h, List.drop_eq_nil_of_le (by omega), rowsIn]
    rfl
theorem num2_eq {bs : List UInt8} {i : Nat} {x y : UInt8} (hx : bs[i]? = some x) (hy : bs[i + 1]? = some y) : num2 bs i = x.toNat + 256 * y.toNat := by
  unfold num2
  rw [List.getD_eq_getElem?_getD, List.getD_eq_getElem?_getD, hx, hy]
  rfl

/-! ### what is due of judge and size -/
def judgeL (bs : List UInt8) : List Int := match judgeF bs with
  | some e => [-6, (e.1 : Int), (e.2 : Int)]
  | none => [0]
theorem judge_due {bs : List UInt8} (h : bs.length ≤ 131080) : PyWqasbp.judge (bints bs) = judgeL bs := by
  show Neutral.shown (if CeSheetSpec.LOOKED < (Neutral.text (bints bs)).length then CeSheetSpec.no 2 else (match CeSheet.judge (Neutral.text (bints bs)) with
    | .error e => .refused 6 [e.1, e.2]
    | .ok _ => .nums [0])) = _
  rw [text_bints, if_neg (by show ¬ 131080 < bs.length; omega)]
  unfold judgeL judgeF
  cases CeSheet.judge bs <;> rfl
def sizeL (bs : List UInt8) : List Int := match judgeF bs with
  | some _ => [-6]
  | none => [(num2 bs 4 : Int), (num2 bs 6 : Int)]
theorem judge_ok {bs : List UInt8} {s : Sheet} (h : CeSheet.judge bs = .ok s) : s.wide = num2 bs 4 ∧ s.high = num2 bs 6 ∧ rowsIn (num2 bs 4) (num2 bs 6) 8 (bs.drop 8) = .ok s.paints := by
  unfold CeSheet.judge at h
  split at h
  · cases h
  · split at h
    · cases h
    · split at h
      · cases h
      · split at h
        · cases h
        · rename_i l e
          cases h
          exact ⟨rfl, rfl, e⟩
theorem size_due {bs : List UInt8} (h : bs.length ≤ 131080) : PyWqasbp.size (bints bs) = sizeL bs := by
  show Neutral.shown (if CeSheetSpec.LOOKED < (Neutral.text (bints bs)).length then CeSheetSpec.no 2 else (match CeSheet.judge (Neutral.text (bints bs)) with
    | .error _ => CeSheetSpec.no 6
    | .ok s => .nums [s.wide, s.high])) = _
  rw [text_bints, if_neg (by show ¬ 131080 < bs.length; omega)]
  unfold sizeL judgeF
  cases e : CeSheet.judge bs with
  | error z => rfl
  | ok s =>
    obtain ⟨h1, h2, _⟩ := judge_ok e
    show [(s.wide : Int), (s.high : Int)] = _
    rw [h1, h2] <;> rfl
end My

namespace My
open CeSheet
/-! ### points: a width, a height and so many -/
def PtsOk (w h : Int) (n : Nat) : Prop := 1 ≤ w ∧ w ≤ 256 ∧ 1 ≤ h ∧ h ≤ 256 ∧ (n : Int) = w * h
instance (w h : Int) (n : Nat) : Decidable (PtsOk w h n) := by unfold PtsOk; exact inferInstance
theorem ptsOk_iff {w h : Int} (hw : 0 ≤ w) (hh : 0 ≤ h) (a : Bytes) : CeSheetSpec.pointsOk a w.toNat h.toNat = true ↔ PtsOk w h a.length := by
  unfold CeSheetSpec.pointsOk CeSheet.sizeOk PtsOk CeSheet.SIDE
  simp only [Bool.and_eq_true, decide_eq_true_eq, beq_iff_eq]
  obtain ⟨m, rfl⟩ := Int.eq_ofNat_of_zero_le hw
  obtain ⟨n, rfl⟩ := Int.eq_ofNat_of_zero_le hh
  simp only [Int.toNat_natCast]
  rw [← Int.natCast_mul]
  omega
end My

namespace My
open CeSheet
/-! ### the bytes of points -/
theorem runsOf_head (p : UInt8) (r : Bytes) : ∃ n l, runsOf (p :: r) = (n + 1, p) :: l := by
  rw [runsOf]
  cases runsOf r with
  | nil => exact ⟨0, [], rfl⟩
  | cons x l =>
    by_cases e : p = x.2
    · refine ⟨x.1, l, ?_⟩
      show (if p = x.2 then (x.1 + 1, x.2) :: l else (1, p) :: x :: l) = _
      rw [if_pos e, e]
    · exact ⟨0, x :: l, if_neg e⟩
theorem runsOf_rep (p : UInt8) (rest : Bytes) (h : rest.head? ≠ some p) : ∀ k, runsOf (List.replicate (k + 1) p ++ rest) = (k + 1, p) :: runsOf rest
  | 0 => by
    show runsOf (p :: rest) = _
    rw [runsOf]
    cases rest with
    | nil => rfl
    | cons q r =>
      obtain ⟨n, l, e⟩ := runsOf_head q r
      rw [e]
      have : ¬ p = q := fun z => h (by rw [z]; rfl)
      exact if_neg this
  | k + 1 => by
    show runsOf (p :: (List.replicate (k + 1) p ++ rest)) = _
    rw [runsOf, runsOf_rep p rest h k]
    exact if_pos rfl
theorem rowBytes_rep (p : UInt8) (rest : Bytes) (h : rest.head? ≠ some p) (k : Nat) : rowBytes (List.replicate (k + 1) p ++ rest) = [UInt8.ofNat k, p] ++ rowBytes rest := by
  unfold rowBytes
  rw [runsOf_rep p rest h k, List.flatMap_cons]
  rfl
theorem runsOf_length : ∀ r : Bytes, (runsOf r).length ≤ r.length
  | [] => Nat.le_refl _
  | p :: r => by
    have ih := runsOf_length r
    rw [runsOf]
    cases e : runsOf r with
    | nil => exact Nat.succ_le_succ (Nat.zero_le _)
    | cons x l =>
      rw [e] at ih
      show (if p = x.2 then (x.1 + 1, x.2) :: l else (1, p) :: x :: l).length ≤ r.length + 1
      simp only [List.length_cons] at ih
      split
      · simp only [List.length_cons]
        omega
      · simp only [List.length_cons]
        omega
theorem rowBytes_length (r : Bytes) : (rowBytes r).length ≤ 2 * r.length := by
  have h : ∀ l : List (Nat × UInt8), (l.flatMap fun (x : Nat × UInt8) => [UInt8.ofNat (x.1 - 1), x.2]).length = 2 * l.length := by
    intro l
    induction l with
    | nil => rfl
    | cons x l ih =>
      rw [List.flatMap_cons, List.length_append, ih]
      simp only [List.length_cons, List.length_nil]
      omega
  unfold rowBytes
  rw [h]
  have := runsOf_length r
  omega
/-- behind i turns of a row: the runs so far, where the run that is being counted begins -/
structure RowInv (row R : Bytes) (s i : Nat) : Prop where
  le : s ≤ i
  top : i ≤ row.length
  size : R.length ≤ 2 * i
  eq : rowBytes row = R ++ rowBytes (row.drop s)
  run : i < row.length → ∃ p, row.drop s = List.replicate (i + 1 - s) p ++ row.drop (i + 1)
  last : i = row.length → s = row.length
theorem RowInv.start (row : Bytes) : RowInv row [] 0 0 := by
  refine ⟨Nat.le_refl _, Nat.zero_le _, Nat.zero_le _, rfl, fun h => ⟨row[0], ?_⟩, fun h => h⟩
  rw [List.drop_eq_getElem_cons h]
  rfl
/-- the paint that is being counted -/
theorem RowInv.paint {row R : Bytes} {s i : Nat} (I : RowInv row R s i) (h : i < row.length) : ∃ p, row[s]? = some p ∧ row.drop s = List.replicate (i + 1 - s) p ++ row.drop (i + 1) := by
  obtain ⟨p, e⟩ := I.run h
  have le := I.le
  refine ⟨p, ?_, e⟩
  have : (row.drop s)[0]? = some p := by
    rw [e, show i + 1 - s = (i - s) + 1 by omega]
    rfl
  rwa [List.getElem?_drop, Nat.add_zero] at this
/-- a run ends ahead of the place i + 1 -/
theorem RowInv.close {row R : Bytes} {s i : Nat} {p : UInt8} (I : RowInv row R s i) (h : i < row.length) (hp : row[s]? = some p) (hc : row[i + 1]? ≠ some p) : RowInv row (R ++ [UInt8.ofNat (i - s), p]) (i + 1) (i + 1) := by
  obtain ⟨p', hp', e⟩ := I.paint h
  have ep : p = p' := Option.some.inj (hp.symm.trans hp')
  subst ep
  have le := I.le
  refine ⟨Nat.le_refl _, h, ?_, ?_, fun h2 => ⟨row[i + 1], ?_⟩, fun z => z⟩
  · rw [List.length_append]
    have := I.size
    show R.length + 2 ≤ 2 * (i + 1)
    omega
  · rw [I.eq, e, show i + 1 - s = (i - s) + 1 by omega, rowBytes_rep p _ (by rw [List.head?_drop]; exact hc), List.append_assoc]
  · rw [List.drop_eq_getElem_cons h2, show i + 1 + 1 - (i + 1) = 1 by omega]
    rfl
/-- the run goes on -/
theorem RowInv.more {row R : Bytes} {s i : Nat} {p : UInt8} (I : RowInv row R s i) (h : i + 1 < row.length) (hp : row[s]? = some p) (hc : row[i + 1]? = some p) : RowInv row R s (i + 1) := by
  obtain ⟨p', hp', e⟩ := I.paint (by omega)
  have ep : p = p' := Option.some.inj (hp.symm.trans hp')
  subst ep
  have le := I.le
  have size := I.size
  refine ⟨by omega, by omega, by omega, I.eq, fun _ => ⟨p, ?_⟩, fun z => by omega⟩
  have e1 : row[i + 1] = p := Option.some.inj ((List.getElem?_eq_getElem h).symm.trans hc)
  rw [e, List.drop_eq_getElem_cons h, e1, show i + 1 + 1 - s = (i + 1 - s) + 1 by omega, List.replicate_succ', List.append_assoc]
  rfl
theorem RowInv.done {row R : Bytes} {s : Nat} (I : RowInv row R s row.length) : R = rowBytes row := by
  rw [I.eq, I.last rfl, List.drop_length]
  show R = R ++ []
  rw [List.append_nil]
theorem rowsOf_more (w : Nat) : ∀ (k : Nat) (l : Bytes), rowsOf w (k + 1) l = rowsOf w k l ++ [(l.drop (k * w)).take w]
  | 0, l => by
    rw [Nat.zero_mul, List.drop_zero]
    rfl
  | k + 1, l => by
    show l.take w :: rowsOf w (k + 1) (l.drop w) = (l.take w :: rowsOf w k (l.drop w)) ++ _
    rw [rowsOf_more w k (l.drop w), List.drop_drop, show w + k * w = (k + 1) * w by rw [Nat.succ_mul, Nat.add_comm]]
    rfl
theorem low2_eq {n : Nat} (h : n < 65536) : bints (low2 n) = [((n % 256 : Nat) : Int), ((n / 256 : Nat) : Int)] := by
  show [(((UInt8.ofNat (n % 256)).toNat : Nat) : Int), (((UInt8.ofNat (n / 256 % 256)).toNat : Nat) : Int)] = _
  have e1 : (UInt8.ofNat (n % 256)).toNat = n % 256 := by
    rw [UInt8.toNat_ofNat']
    omega
  have e2 : (UInt8.ofNat (n / 256 % 256)).toNat = n / 256 := by
    rw [UInt8.toNat_ofNat']
    omega
  rw [e1, e2]
def keepB (w h : Nat) (a : Bytes) : Bytes := Sheet.bytes ⟨w, h, a⟩
def keepL (w h : Int) (a : Bytes) : List Int := if PtsOk w h a.length then ((keepB w.toNat h.toNat a).length : Int) :: bints (keepB w.toNat h.toNat a) else [-1]
theorem keep_due {w h : Int} (hw : 0 ≤ w) (hh : 0 ≤ h) (a : Bytes) : PyWqasbp.keep w h (bints a) = keepL w h a := by
  show Neutral.shown (if CeSheetSpec.pointsOk (Neutral.text (bints a)) w.toNat h.toNat = true then .bytes (Sheet.bytes ⟨w.toNat, h.toNat, Neutral.text (bints a)⟩) else CeSheetSpec.no 1) = _
  rw [text_bints]
  unfold keepL
  by_cases c : PtsOk w h a.length
  · rw [if_pos c, if_pos ((ptsOk_iff hw hh a).mpr c)]
    rfl
  · rw [if_neg c, if_neg (fun z => c ((ptsOk_iff hw hh a).mp z))]
    rfl
end My

namespace My
open PySem PySem.Spec PyProof.Rows L2
/-! ### the text by places -/
def topS (i : Nat) : Stmt := PySem.Challenge.pw_paintsheets_s04_keep.main.body.getD i (.Pass ⟨0, 0, 0, 0⟩)
abbrev s_keep : Stmt := topS 3
abbrev s_as_two_bytes : Stmt := topS 4
abbrev s_row_runs : Stmt := topS 5
abbrev s_is_side : Stmt := topS 6
abbrev s_are_points : Stmt := topS 7
end My
/-! ### the layer: defs by name, constants, lists of bytes -/
namespace My
open PySem PySem.Spec PyProof.Rows L2
open PySem.W (Codec)
/-- a def of the text as it stands behind the top -/
def Df (K : PySem.W.Frag) (mg : Str → Option Value) (x : Str) (st : Stmt) (ps : List Str) : Prop :=
  ∃ (f : Addr) (fd : FuncData), Fun K x x st f fd ∧ mg x = some (.ref f) ∧ Binds K fd ps []
/-- a def that keeps its promise -/
def Ok (P : Program) (w : World) (K : PySem.W.Frag) (mg : Str → Option Value) (base : Heap) (k : Nat) (x : Str) (ps : List Str) (sp : Sp) : Prop :=
  ∃ (f : Addr) (fd : FuncData), FnOk P w K mg base CX0 k f fd ps sp ∧ mg x = some (.ref f) ∧ PySem.W.keepIn K (.ref f) = true ∧ Binds K fd ps []
theorem pe_ok {X : Cx} {k : Nat} {x : Str} {ps : List Str} {sp : Sp} {e : Expr} {es : List Expr} {t : TA} {p pos : Pos} (c : Ok X.prog X.w X.K X.mg X.base k x ps sp) (hr : Room k X.A) (hg : Gl X x) (ha : PA X (e :: es) t)
    (hdb : (x == ("__debug__" : Str)) = false := by decide) (he : starEach (e :: es) X.env = (false, eval e X.env) :: starEach es X.env := by rfl) (hpl : (backTo pos (starEach es X.env)).any (·.1) = false := by rfl) :
    PE X (.Call (.Name x p) (e :: es) [] pos) (tCall sp [] E0 t) := by
  obtain ⟨f, fd, F, hm, hk, hb⟩ := c
  exact pe_call F hr hg hm hk hb .nil pass0 ha hdb he hpl
/-- a whole number that the top names -/
def Cn (mg : Str → Option Value) (x : Str) (n : Int) : Prop := ∃ t, mg x = some (.int n t)
theorem pe_cn {X : Cx} {x : Str} {n : Int} {pos : Pos} (c : Cn X.mg x n) (hg : Gl X x) (hdb : (x == ("__debug__" : Str)) = false := by decide) : PE X (.Name x pos) (tC (.int n)) := by
  obtain ⟨t, h⟩ := c
  exact pe_glob hg h ⟨t, rfl⟩ (hd := hdb)
def vb (bs : List UInt8) : List V := (bints bs).map V.int
theorem vb_length (bs : List UInt8) : (vb bs).length = bs.length := by unfold vb; rw [List.length_map, bints_length]
theorem vb_get {bs : List UInt8} {i : Nat} {c : UInt8} (h : bs[i]? = some c) : (vb bs)[i]? = some (.int ((c.toNat : Nat) : Int)) := by
  unfold vb bints
  rw [List.getElem?_map, List.getElem?_map, h]
  rfl
theorem vb_at {bs : List UInt8} {i : Nat} {c : UInt8} (h : bs[i]? = some c) : atI (vb bs) ((i : Nat) : Int) = some (.int ((c.toNat : Nat) : Int)) := atI_nat (vb_get h)
theorem vb_at1 {bs : List UInt8} {i : Nat} {c : UInt8} (h : bs[i + 1]? = some c) : atI (vb bs) (((i : Nat) : Int) + 1) = some (.int ((c.toNat : Nat) : Int)) := by
  rw [show ((i : Nat) : Int) + 1 = ((i + 1 : Nat) : Int) by omega]
  exact vb_at h
theorem vb_append (as bs : List UInt8) : vb (as ++ bs) = vb as ++ vb bs := by unfold vb; rw [bints_append, List.map_append]
theorem vb_take (bs : List UInt8) (n : Nat) : (vb bs).take n = vb (bs.take n) := by unfold vb bints; rw [List.map_take, List.map_take]
theorem vb_drop (bs : List UInt8) (n : Nat) : (vb bs).drop n = vb (bs.drop n) := by unfold vb bints; rw [List.map_drop, List.map_drop]
theorem vb_step {bs : List UInt8} {i : Nat} {c : UInt8} (h : bs[i]? = some c) : vb (bs.take (i + 1)) = vb (bs.take i) ++ [.int ((c.toNat : Nat) : Int)] := by
  rw [List.take_add_one, h, vb_append]
  rfl
theorem byte0 (x : UInt8) : decide (V.int ((x.toNat : Nat) : Int) = V.int 0) = decide (x = 0) := by
  refine decide_eq_decide.mpr ⟨fun z => ?_, fun z => ?_⟩
  · have e : ((x.toNat : Nat) : Int) = 0 := V.int.inj z
    exact UInt8.toNat_inj.mp (by show x.toNat = 0; omega)
  · rw [z]
    rfl
theorem same_new {H : Hp} {p : Addr} {o : HO} (h : H p = none) : Same H (upd H p o) := fun b u e => by
  rw [upd_ne (ne_of_none e h)]
  exact e
theorem dp_ints {K : PySem.W.Frag} {H : Hp} : ∀ ns : List Int, DpAll K H (ns.map V.int) (ns.map PyData.int)
  | [] => .nil
  | n :: r => .cons (.int n) (dp_ints r)
theorem eqv_ints (ns ms : List Int) : PyData.eqv (.list (ns.map PyData.int)) (.list (ms.map PyData.int)) = decide (ns = ms) := by
  rw [PyData.eqv]
  exact PySem.W.ked_eqvAll ns ms
theorem bints_inj {as bs : List UInt8} (h : bints as = bints bs) : as = bs := by
  have := congrArg Neutral.text h
  rwa [text_bints, text_bints] at this
theorem inInt_of {lo hi k : Int} (h : Codec.inInt lo hi k = true) : lo ≤ k ∧ k ≤ hi := by
  unfold Codec.inInt at h
  rw [Bool.and_eq_true] at h
  exact ⟨of_decide_eq_true h.1, of_decide_eq_true h.2⟩
end My

/-! ### is_side: a width or a height -/
namespace My
open PySem PySem.Spec PyProof.Rows L2
open PySem.W (Codec)
def spSide : Sp := fun vs H Q _ => ∃ n : Int, vs = [.int n] ∧ Q (.bl (decide (1 ≤ n ∧ n ≤ 256))) H
section
variable {P : Program} {w : World} {K : PySem.W.Frag} {mg : Str → Option Value} {base : Heap}
theorem scSide : FnScope ["n"] ["n"] (defScope s_is_side) := ⟨rfl, rfl, rfl, by decide +kernel, rfl, by decide +kernel, by decide +kernel⟩
theorem ok_is_side (D : Df K mg "is_side" s_is_side ["n"]) (cL : Cn mg "LARGEST_SIDE" 256) : Ok P w K mg base 1 "is_side" ["n"] spSide := by
  obtain ⟨f, fd, F, hm, hb⟩ := D
  refine ⟨f, fd, F.ok scSide (fun vs H Q E h => ?_) (fun cdv A outer s H vs Q E hr h => ?_), hm, F.kp, hb⟩
  · obtain ⟨n, rfl, _⟩ := h
    rfl
  · obtain ⟨n, rfl, k⟩ := h
    refine ⟨_, pss_one (ps_ret (pe_chain op_le op_le pe_int (pv 0) (pe_cn cL rfl))), ?_⟩
    refine ⟨_, rfl, _, _, rfl, rfl, _, rfl, ite2 (fun h1 => ⟨_, _, rfl, rfl, ?_⟩) (fun h1 => ?_)⟩
    · have e : decide (1 ≤ n ∧ n ≤ 256) = decide (n ≤ 256) := decide_eq_decide.mpr ⟨fun z => z.2, fun z => ⟨of_decide_eq_true h1, z⟩⟩
      rw [e] at k
      exact k
    · have e : decide (1 ≤ n ∧ n ≤ 256) = false := decide_eq_false fun z => h1 (decide_eq_true z.1)
      rw [e] at k
      exact k
end
end My

/-! ### are_points: a width, a height and so many points -/
namespace My
open PySem PySem.Spec PyProof.Rows L2
open PySem.W (Codec)
def spPoints (K : PySem.W.Frag) : Sp := fun vs H Q _ => ∃ (a : Addr) (xs : List V) (wd hh : Int), vs = [.ref a, .int wd, .int hh] ∧ SqL K H a xs ∧ Q (.bl (decide (PtsOk wd hh xs.length))) H
section
variable {P : Program} {w : World} {K : PySem.W.Frag} {mg : Str → Option Value} {base : Heap}
theorem scPoints : FnScope ["a", "w", "h"] ["a", "w", "h"] (defScope s_are_points) := ⟨rfl, rfl, rfl, by decide +kernel, rfl, by decide +kernel, by decide +kernel⟩
theorem ok_are_points (D : Df K mg "are_points" s_are_points ["a", "w", "h"]) (D1 : Df K mg "is_side" s_is_side ["n"]) (cL : Cn mg "LARGEST_SIDE" 256) (zlen : mg "len" = none) : Ok P w K mg base 2 "are_points" ["a", "w", "h"] (spPoints K) := by
  have C1 : Ok P w K mg base 1 "is_side" ["n"] spSide := ok_is_side D1 cL
  obtain ⟨f, fd, F, hm, hb⟩ := D
  refine ⟨f, fd, F.ok scPoints (fun vs H Q E h => ?_) (fun cdv A outer s H vs Q E hr h => ?_), hm, F.kp, hb⟩
  · obtain ⟨a, xs, wd, hh, rfl, _⟩ := h
    rfl
  · obtain ⟨a, xs, wd, hh, rfl, hS, k⟩ := h
    refine ⟨_, pss_one (ps_ret (pe_and (pe_ok C1 hr rfl (pa_cons (pv 1) pa_nil)) (pe_and (pe_ok C1 hr rfl (pa_cons (pv 2) pa_nil)) (pe_one (pe_cmpR op_eq (pe_callB call_len_seq (by rfl) zlen PySem.boot_len (pa_cons (pv 0) pa_nil)) (pe_op op_mul (pv 1) (pv 2)) (nomark _)))))), ?_⟩
    have no : ¬ PtsOk wd hh xs.length → Q (.bl false) H := fun z => by
      rw [decide_eq_false z] at k
      exact k
    refine ⟨_, rfl, _, rfl, _, rfl, ite2 (fun c1 => ?_) (fun c1 => ?_)⟩
    · have c1' := of_decide_eq_true c1
      refine ⟨_, rfl, _, rfl, _, rfl, ite2 (fun c2 => ?_) (fun c2 => ?_)⟩
      · have c2' := of_decide_eq_true c2
        refine ⟨_, rfl, a, _, rfl, .inl hS, _, rfl, _, rfl, _, _, rfl, rfl, .inl ⟨by omega, by omega⟩, rfl, ?_⟩
        have e : decide (V.int ((xs.length : Nat) : Int) = V.int (wd * hh)) = decide (PtsOk wd hh xs.length) := decide_eq_decide.mpr ⟨fun z => ⟨c1'.1, c1'.2, c2'.1, c2'.2, V.int.inj z⟩, fun z => congrArg V.int z.2.2.2.2⟩
        rw [← e] at k
        exact k
      · exact no fun z => c2 (decide_eq_true ⟨z.2.2.1, z.2.2.2.1⟩)
    · exact no fun z => c1 (decide_eq_true ⟨z.1, z.2.1⟩)
end
end My

namespace My
open PySem PySem.Spec PyProof.Rows L2
open PySem.W (Codec)
theorem same_off {H0 H : Hp} {l : Addr} {o : HO} (s : Same H0 H) (h : H0 l = none) : Same H0 (upd H l o) := fun b u e => by
  rw [upd_ne (ne_of_none e h)]
  exact s b u e
theorem rgc_up {a b c : Int} {n : Nat} (hc : 0 < c) (hc2 : c < 1073741824) (ha : -(2 ^ 61) ≤ a) (ha' : a < 2 ^ 61) (hb : -(2 ^ 61) ≤ b) (hb' : b < 2 ^ 61) (hn : (if a < b then (b - a - 1) / c + 1 else 0) = (n : Int)) (hn2 : (n : Int) < 2 ^ 62) : RgC a b c n := by
  have e : Builtin.Range.rangeSize a b c = (n : Int) := by
    unfold Builtin.Range.rangeSize
    rw [if_pos (show c > 0 from hc)]
    exact hn
  refine ⟨by omega, by omega, ?_, e⟩
  unfold Builtin.Range.small
  rw [e]
  simp only [Builtin.Range.rangeFitsLong, Bool.and_eq_true, Bool.or_eq_true, decide_eq_true_eq, beq_iff_eq, if_pos (show c > 0 from hc)]
  omega
end My

/-! ### keep: the bytes of points -/
namespace My
open PySem PySem.Spec PyProof.Rows L2
open PySem.W (Codec)
def spLow (_ : PySem.W.Frag) : Sp := fun vs H Q _ => ∃ n : Nat, vs = [.int ((n : Nat) : Int)] ∧ n < 65536 ∧ ∀ p, H p = none → Q (.ref p) (upd H p (.lst (vb (CeSheet.low2 n))))
def spRowRuns (K : PySem.W.Frag) : Sp := fun vs H Q _ => ∃ (a : Addr) (row : List UInt8), vs = [.ref a] ∧ SqL K H a (vb row) ∧ row.length ≤ 256 ∧ ∀ H' p, Same H H' → H' p = some (.lst (vb (CeSheet.rowBytes row))) → Q (.ref p) H'
def spKeep (K : PySem.W.Frag) : Sp := fun vs H Q _ => ∃ (a : Addr) (wd hh : Int) (bs : List UInt8), vs = [.int wd, .int hh, .ref a] ∧ SqL K H a (vb bs) ∧ 0 ≤ wd ∧ 0 ≤ hh ∧ ∀ H' p, Same H H' → H' p = some (.lst ((keepL wd hh bs).map V.int)) → Q (.ref p) H'
theorem cut_row {bs : List UInt8} {s wd : Nat} (h : s + wd ≤ bs.length) : cutV (vb bs) (some ((s : Nat) : Int)) (some (((s : Nat) : Int) + ((wd : Nat) : Int))) = vb ((bs.drop s).take wd) := by
  rw [show ((s : Nat) : Int) + ((wd : Nat) : Int) = ((s + wd : Nat) : Int) by omega]
  show ((vb bs).drop (HT.sIx (vb bs).length 0 (some ((s : Nat) : Int)))).take (HT.sIx (vb bs).length (vb bs).length (some ((s + wd : Nat) : Int)) - HT.sIx (vb bs).length 0 (some ((s : Nat) : Int))) = _
  rw [HT.sIx_nat, HT.sIx_nat, vb_length, Nat.min_eq_left (show s ≤ bs.length by omega), Nat.min_eq_left h, vb_drop, vb_take, show s + wd - s = wd by omega]
section
variable {P : Program} {w : World} {K : PySem.W.Frag} {mg : Str → Option Value} {base : Heap}
theorem scLow : FnScope ["n"] ["n"] (defScope s_as_two_bytes) := ⟨rfl, rfl, rfl, by decide +kernel, rfl, by decide +kernel, by decide +kernel⟩
theorem ok_as_two_bytes (D : Df K mg "as_two_bytes" s_as_two_bytes ["n"]) : Ok P w K mg base 1 "as_two_bytes" ["n"] (spLow K) := by
  obtain ⟨f, fd, F, hm, hb⟩ := D
  refine ⟨f, fd, F.ok scLow (fun vs H Q E h => ?_) (fun cdv A outer s H vs Q E hr h => ?_), hm, F.kp, hb⟩
  · obtain ⟨n, rfl, _⟩ := h
    rfl
  · obtain ⟨n, rfl, hn, k⟩ := h
    refine ⟨_, pss_one (ps_ret (pe_lst (pa_cons (pe_op op_mod (pv 0) pe_int) (pa_cons (pe_op op_fdiv (pv 0) pe_int) pa_nil)))), ?_⟩
    refine ⟨_, rfl, _, _, rfl, rfl, (by show (0 : Int) < 256; decide), _, rfl, _, _, rfl, rfl, ⟨by decide, by decide⟩, (by show 2 ≤ sizeLine; decide), fun p hp => ?_⟩
    have e := k p hp
    unfold vb at e
    rw [low2_eq hn] at e
    exact e
theorem scRows : FnScope ["row", "runs", "start", "x"] ["row"] (defScope s_row_runs) := ⟨rfl, rfl, rfl, by decide +kernel, rfl, by decide +kernel, by decide +kernel⟩
theorem ok_row_runs (D : Df K mg "row_runs" s_row_runs ["row"]) (zlen : mg "len" = none) (zrange : mg "range" = none) : Ok P w K mg base 1 "row_runs" ["row"] (spRowRuns K) := by
  obtain ⟨f, fd, F, hm, hb⟩ := D
  refine ⟨f, fd, F.ok scRows (fun vs H Q E h => ?_) (fun cdv A outer s H vs Q E hr h => ?_), hm, F.kp, hb⟩
  · obtain ⟨a, row, rfl, _⟩ := h
    rfl
  · obtain ⟨a, row, rfl, hS, h256, k⟩ := h
    have line : sizeLine = 16777216 := by decide
    refine ⟨_, pss_cons (ps_set (i := 1) scRows.nd rfl (Or.inl rfl) (pe_lst pa_nil))
      (pss_cons (ps_set (i := 2) scRows.nd rfl (Or.inl rfl) pe_int)
      (pss_cons (ps_for PassesOwn.never rfl (pi_range2 (by rfl) zrange (pa_cons pe_int (pa_cons (pe_op op_add (pe_callB call_len_seq (by rfl) zlen PySem.boot_len (pa_cons (pv 0) pa_nil)) pe_int) pa_nil))) (pg_name (i := 3) scRows.nd rfl (Or.inl rfl))
        (pss_one (ps_if (PW.pt (pw_or (pt_cmpR op_eq (pv 3) (pe_callB call_len_seq (by rfl) zlen PySem.boot_len (pa_cons (pv 0) pa_nil)) (nomark _))
            (pw_or1 (pt_cmpR op_ne (pe_ix ix_list (pv 0) (pv 3) (fun _ _ => rfl)) (pe_ix ix_list (pv 0) (pv 2) (fun _ _ => rfl)) (nomark _)))))
          (pss_cons (ps_expr (pe_bm PySem.F.plainAttrs_list PySem.F.slot_list_extend PySem.F.type_list_extend mt_extend (pv 1)
              (pa_cons (pe_lst (pa_cons (pe_op op_sub (pe_op op_sub (pv 3) (pv 2)) pe_int) (pa_cons (pe_ix ix_list (pv 0) (pv 2) (fun _ _ => rfl)) pa_nil))) pa_nil)))
            (pss_one (ps_set (i := 2) scRows.nd rfl (Or.inl rfl) (pv 3)))) pss_nil)))
      (pss_one (ps_ret (pv 1))))), ?_⟩
    refine ⟨Nat.zero_le _, fun l hl => ?_⟩
    refine ⟨_, rfl, a, _, rfl, .inl ((same_new hl).seq hS), _, _, rfl, rfl, 1, ((row.length : Nat) : Int) + 1, by rw [vb_length], ⟨by decide, by decide, by omega, by omega⟩, ?_⟩
    have en : (((row.length : Nat) : Int) + 1 - 1).toNat = row.length := by omega
    rw [en]
    refine for_range (lo := 1) (n := row.length) (fun i σ H' => Same H H' ∧ ∃ (R : List UInt8) (s : Nat) (vx : Option V),
        σ = [some (.ref a), some (.ref l), some (.int ((s : Nat) : Int)), vx] ∧ H' l = some (.lst (vb R)) ∧ RowInv row R s i)
      ⟨same_new hl, [], 0, none, rfl, upd_same, RowInv.start row⟩ ?_ ?_
    · rintro i σ H' hi ⟨s1, R, s, vx, rfl, hL, I⟩
      obtain ⟨p, hp, _⟩ := I.paint hi
      have le := I.le
      have size := I.size
      have ex : (1 : Int) + ((i : Nat) : Int) = ((i + 1 : Nat) : Int) := by omega
      rw [ex]
      -- a run that ends here
      have body : row[i + 1]? ≠ some p → ∀ q, H' q = none → ∀ (O : HO), O = .lst [V.int (((i + 1 : Nat) : Int) - ((s : Nat) : Int) - 1), V.int ((p.toNat : Nat) : Int)] →
          Same H (upd (upd H' q O) l (.lst (vb R ++ [V.int (((i + 1 : Nat) : Int) - ((s : Nat) : Int) - 1), V.int ((p.toNat : Nat) : Int)]))) ∧
          vb R ++ [V.int (((i + 1 : Nat) : Int) - ((s : Nat) : Int) - 1), V.int ((p.toNat : Nat) : Int)] = vb (R ++ [UInt8.ofNat (i - s), p]) := fun _ q hq O _ => by
        refine ⟨same_off (s1.trans (same_new hq)) hl, ?_⟩
        rw [vb_append]
        have e1 : (UInt8.ofNat (i - s)).toNat = i - s := by
          rw [UInt8.toNat_ofNat']
          omega
        have e2 : ((i + 1 : Nat) : Int) - ((s : Nat) : Int) - 1 = (((UInt8.ofNat (i - s)).toNat : Nat) : Int) := by
          rw [e1]
          omega
        rw [e2]
        rfl
      refine ⟨_, rfl, _, rfl, a, _, rfl, .inl (s1.seq hS), rfl, _, rfl, ?_⟩
      rw [vb_length]
      refine ite2 (fun c => ?_) (fun c => ?_)
      · have c1 : i + 1 = row.length := by
          have z := V.int.inj (of_decide_eq_true c)
          omega
        have hc : row[i + 1]? ≠ some p := by
          rw [List.getElem?_eq_none (by omega)]
          intro z
          cases z
        refine iteT ?_
        refine ⟨_, rfl, .inl ⟨rfl, _, SqL.of hL⟩, _, rfl, _, rfl, _, _, rfl, rfl, _, _, rfl, rfl, _, rfl, _, rfl, a, _, _, _, rfl, rfl, s1.seq hS, vb_at hp, (by show 2 ≤ sizeLine; decide), fun q hq => ?_⟩
        obtain ⟨b1, b2⟩ := body hc q hq _ rfl
        have nl := ne_of_none hL hq
        refine ⟨l, q, _, _, rfl, rfl, by rw [upd_ne nl]; exact hL, upd_same, ?_, _, rfl, ?_⟩
        · rw [vb_length]
          show R.length + 2 ≤ sizeLine
          omega
        · exact ⟨b1, _, i + 1, _, rfl, upd_same.trans (congrArg (fun z => some (HO.lst z)) b2), I.close hi hp hc⟩
      · have c1 : i + 1 < row.length := by
          have : ¬ i + 1 = row.length := fun z => c (decide_eq_true (by rw [z]))
          omega
        obtain ⟨x, hx⟩ : ∃ x, row[i + 1]? = some x := ⟨_, List.getElem?_eq_getElem c1⟩
        refine ⟨_, rfl, _, rfl, a, _, _, _, rfl, rfl, s1.seq hS, vb_at hx, _, rfl, _, rfl, a, _, _, _, rfl, rfl, s1.seq hS, vb_at hp, rfl, _, rfl, ?_⟩
        refine ite2 (fun c => ?_) (fun c => ?_)
        · have hc : row[i + 1]? ≠ some p := fun z => by
            have e := Option.some.inj (hx.symm.trans z)
            rw [e, decide_eq_true rfl] at c
            cases c
          refine ⟨_, rfl, .inl ⟨rfl, _, SqL.of hL⟩, _, rfl, _, rfl, _, _, rfl, rfl, _, _, rfl, rfl, _, rfl, _, rfl, a, _, _, _, rfl, rfl, s1.seq hS, vb_at hp, (by show 2 ≤ sizeLine; decide), fun q hq => ?_⟩
          obtain ⟨b1, b2⟩ := body hc q hq _ rfl
          have nl := ne_of_none hL hq
          refine ⟨l, q, _, _, rfl, rfl, by rw [upd_ne nl]; exact hL, upd_same, ?_, _, rfl, ?_⟩
          · rw [vb_length]
            show R.length + 2 ≤ sizeLine
            omega
          · exact ⟨b1, _, i + 1, _, rfl, upd_same.trans (congrArg (fun z => some (HO.lst z)) b2), I.close hi hp hc⟩
        · have hc : x = p := by
            by_cases z : V.int ((x.toNat : Nat) : Int) = V.int ((p.toNat : Nat) : Int)
            · have z2 := V.int.inj z
              exact UInt8.toNat_inj.mp (by omega)
            · exact absurd (by rw [decide_eq_false z]; rfl) c
          subst hc
          exact ⟨s1, R, s, _, rfl, hL, I.more c1 hp hx⟩
    · rintro σ H' ⟨s1, R, s, vx, rfl, hL, I⟩
      rw [I.done] at hL
      exact ⟨_, rfl, k _ l s1 hL⟩
theorem scKeep : FnScope ["w", "h", "a", "b", "start"] ["w", "h", "a"] (defScope s_keep) := ⟨rfl, rfl, rfl, by decide +kernel, rfl, by decide +kernel, by decide +kernel⟩
theorem ok_keep {f : Addr} {fd : FuncData} (F : Fun K "keep" "keep" s_keep f fd) (D1 : Df K mg "are_points" s_are_points ["a", "w", "h"]) (D2 : Df K mg "is_side" s_is_side ["n"]) (D3 : Df K mg "as_two_bytes" s_as_two_bytes ["n"]) (D4 : Df K mg "row_runs" s_row_runs ["row"])
    (cL : Cn mg "LARGEST_SIDE" 256) (mark : ∃ a, mg "MARK" = some (.ref a) ∧ ∀ H, SqT K H a ([67, 69, 76, 49].map V.int)) (zlen : mg "len" = none) (zrange : mg "range" = none) (zlist : mg "list" = none) : FnOk P w K mg base CX0 3 f fd ["w", "h", "a"] (spKeep K) := by
  have C1 : Ok P w K mg base 2 "are_points" ["a", "w", "h"] (spPoints K) := ok_are_points D1 D2 cL zlen
  have C3 : Ok P w K mg base 1 "as_two_bytes" ["n"] (spLow K) := ok_as_two_bytes D3
  have C4 : Ok P w K mg base 1 "row_runs" ["row"] (spRowRuns K) := ok_row_runs D4 zlen zrange
  obtain ⟨aM, mM, sM⟩ := mark
  refine F.ok scKeep (fun vs H Q E h => ?_) (fun cdv A outer s H vs Q E hr h => ?_)
  · obtain ⟨a, wd, hh, bs, rfl, _⟩ := h
    rfl
  · obtain ⟨a, wd, hh, bs, rfl, hS, hw0, hh0, k⟩ := h
    have hr1 : Room 1 _ := hr.mono (by decide)
    have line : sizeLine = 16777216 := by decide
    refine ⟨_, pss_cons (ps_if (pt_not (pt_val (pe_ok C1 hr rfl (pa_cons (pv 2) (pa_cons (pv 0) (pa_cons (pv 1) pa_nil)))))) (pss_one (ps_ret (pe_lst (pa_cons (pe_un un_neg pe_int) pa_nil)))) pss_nil)
      (pss_cons (ps_set (i := 3) scKeep.nd rfl (Or.inl rfl) (pe_op op_cat (pe_op op_cat (pe_callTy call_list_of (by rfl) zlist (by decide +kernel) (pa_cons (pe_glob (v := .ref aM) rfl mM rfl) pa_nil)) (pe_ok C3 hr1 rfl (pa_cons (pv 0) pa_nil))) (pe_ok C3 hr1 rfl (pa_cons (pv 1) pa_nil))))
      (pss_cons (ps_for PassesOwn.never rfl (pi_range3 rfl zrange (pa_cons pe_int (pa_cons (pe_callB call_len_seq (by rfl) zlen PySem.boot_len (pa_cons (pv 2) pa_nil)) (pa_cons (pv 0) pa_nil)))) (pg_name (i := 4) scKeep.nd rfl (Or.inl rfl))
        (pss_one (ps_expr (pe_bm PySem.F.plainAttrs_list PySem.F.slot_list_extend PySem.F.type_list_extend mt_extend (pv 3)
          (pa_cons (pe_ok C4 hr1 rfl (pa_cons (pe_slice sl_list (pv 2) (po_some (pv 4)) (po_some (pe_op op_add (pv 4) (pv 0)))) pa_nil)) pa_nil)))))
      (pss_one (ps_ret (pe_op op_cat (pe_lst (pa_cons (pe_callB call_len_seq (by rfl) zlen PySem.boot_len (pa_cons (pv 3) pa_nil)) pa_nil)) (pv 3)))))), ?_⟩
    refine ⟨_, rfl, _, rfl, _, rfl, a, _, wd, hh, rfl, hS, _, rfl, ?_⟩
    rw [vb_length]
    unfold keepL at k
    by_cases c : PtsOk wd hh bs.length
    · rw [if_pos c] at k
      rw [decide_eq_true c]
      obtain ⟨wn, rfl⟩ := Int.eq_ofNat_of_zero_le hw0
      obtain ⟨hn, rfl⟩ := Int.eq_ofNat_of_zero_le hh0
      obtain ⟨w1, w2, h1, h2, hl⟩ := c
      simp only [Int.toNat_natCast] at k
      have hln : bs.length = wn * hn := by
        rw [← Int.natCast_mul] at hl
        omega
      refine iteF ?_
      refine ⟨aM, _, rfl, .inr (sM _), fun p1 n1 => ?_⟩
      refine ⟨_, rfl, wn, rfl, by omega, fun p2 n2 => ?_⟩
      have d12 : p1 ≠ p2 := ne_of_none upd_same n2
      refine ⟨p1, p2, _, _, rfl, rfl, by rw [upd_ne d12, upd_same], upd_same, (by show 4 + 2 ≤ sizeLine; decide), fun p3 n3 => ?_⟩
      refine ⟨_, rfl, hn, rfl, by omega, fun p4 n4 => ?_⟩
      have d34 : p3 ≠ p4 := ne_of_none upd_same n4
      refine ⟨p3, p4, _, _, rfl, rfl, by rw [upd_ne d34, upd_same], upd_same, (by show 4 + 2 + 2 ≤ sizeLine; decide), fun l hl5 => ?_⟩
      have s0 := (((same_new (o := HO.lst (([67, 69, 76, 49] : List Int).map V.int)) n1).trans (same_new (o := HO.lst (vb (CeSheet.low2 wn))) n2)).trans (same_new (o := HO.lst (([67, 69, 76, 49] : List Int).map V.int ++ vb (CeSheet.low2 wn))) n3)).trans (same_new (o := HO.lst (vb (CeSheet.low2 hn))) n4)
      have hl0 := s0.free hl5
      have eh : (([67, 69, 76, 49] : List Int).map V.int ++ vb (CeSheet.low2 wn)) ++ vb (CeSheet.low2 hn) = vb (CeSheet.MARK ++ (CeSheet.low2 wn ++ CeSheet.low2 hn)) := by
        rw [vb_append, vb_append, List.append_assoc]
        rfl
      refine ⟨_, rfl, a, _, rfl, .inl ((s0.trans (same_new hl5)).seq hS), _, rfl, 0, ((bs.length : Nat) : Int), ((wn : Nat) : Int), hn, by rw [vb_length], ?_, ?_⟩
      · have hwn : (wn : Int) * hn ≤ 256 * 256 := Int.mul_le_mul w2 h2 (by omega) (by decide)
        refine rgc_up (by omega) (by omega) (by decide) (by decide) (by omega) (by omega) ?_ (by omega)
        have hpos : 0 < ((bs.length : Nat) : Int) := by
          rw [hl]
          exact Int.mul_pos (by omega) (by omega)
        rw [if_pos hpos, hl]
        have e1 : (wn : Int) * hn - 0 - 1 = (wn - 1) + wn * (hn - 1) := by
          rw [Int.mul_sub]
          omega
        rw [e1, Int.add_mul_ediv_left _ _ (by omega), Int.ediv_eq_zero_of_lt (by omega) (by omega)]
        omega
      refine for_rangeC (lo := 0) (c := ((wn : Nat) : Int)) (n := hn) (fun i σ H' => Same H H' ∧ ∃ (vp : Option V),
          σ = [some (.int ((wn : Nat) : Int)), some (.int ((hn : Nat) : Int)), some (.ref a), some (.ref l), vp] ∧
          H' l = some (.lst (vb (CeSheet.MARK ++ (CeSheet.low2 wn ++ (CeSheet.low2 hn ++ (CeSheet.rowsOf wn i bs).flatMap CeSheet.rowBytes))))) ∧ ((CeSheet.rowsOf wn i bs).flatMap CeSheet.rowBytes).length ≤ 512 * i)
        ⟨s0.trans (same_new hl5), none, rfl, ?_, Nat.zero_le _⟩ ?_ ?_
      · rw [upd_same, eh]
        show _ = some (HO.lst (vb (CeSheet.MARK ++ (CeSheet.low2 wn ++ (CeSheet.low2 hn ++ [])))))
        rw [List.append_nil]
      · rintro i σ H' hi ⟨s1, vp, rfl, hL, hz⟩
        have hrow : i * wn + wn ≤ bs.length := by
          rw [hln, ← Nat.succ_mul, Nat.mul_comm wn hn]
          exact Nat.mul_le_mul_right _ hi
        have es : (0 : Int) + ((i : Nat) : Int) * ((wn : Nat) : Int) = ((i * wn : Nat) : Int) := by
          rw [Int.natCast_mul]
          omega
        rw [es]
        refine ⟨_, rfl, .inl ⟨rfl, _, SqL.of hL⟩, _, rfl, _, rfl, _, rfl, _, rfl, _, rfl, _, _, rfl, rfl, _, rfl, a, _, rfl, s1.seq hS, fun p1 n1 => ?_⟩
        have s2 := s1.trans (same_new (o := .lst (cutV (vb bs) (some ((i * wn : Nat) : Int)) (some (((i * wn : Nat) : Int) + ((wn : Nat) : Int))))) n1)
        have rl : ((bs.drop (i * wn)).take wn).length ≤ 256 := by
          rw [List.length_take]
          omega
        refine ⟨p1, (bs.drop (i * wn)).take wn, rfl, SqL.of (by rw [upd_same, cut_row hrow]), rl, fun H2 q s3 hq => ?_⟩
        have hL2 := s3 _ _ (same_new n1 _ _ hL)
        have rb := rowBytes_length ((bs.drop (i * wn)).take wn)
        have ef : (CeSheet.rowsOf wn (i + 1) bs).flatMap CeSheet.rowBytes = (CeSheet.rowsOf wn i bs).flatMap CeSheet.rowBytes ++ CeSheet.rowBytes ((bs.drop (i * wn)).take wn) := by
          rw [rowsOf_more, List.flatMap_append, List.flatMap_cons, List.flatMap_nil, List.append_nil]
        refine ⟨l, q, _, _, rfl, rfl, hL2, hq, ?_, same_off (s2.trans s3) hl0, _, rfl, ?_, ?_⟩
        · rw [vb_length, vb_length]
          simp only [List.length_append]
          have m4 : CeSheet.MARK.length = 4 := rfl
          have l1 : (CeSheet.low2 wn).length = 2 := rfl
          have l2 : (CeSheet.low2 hn).length = 2 := rfl
          omega
        · rw [upd_same, ← vb_append, ef]
          simp only [List.append_assoc]
        · rw [ef, List.length_append]
          omega
      · rintro σ H' ⟨s1, vp, rfl, hL, hz⟩
        refine ⟨_, rfl, l, _, rfl, .inl (SqL.of hL), (by show 1 ≤ sizeLine; decide), fun p1 n1 => ?_⟩
        have nl1 : l ≠ p1 := ne_of_none hL n1
        refine ⟨_, rfl, p1, l, _, _, rfl, rfl, upd_same, by rw [upd_ne nl1]; exact hL, ?_, fun p2 n2 => ?_⟩
        · rw [vb_length]
          simp only [List.length_append, List.length_cons, List.length_nil]
          have m4 : CeSheet.MARK.length = 4 := rfl
          have l1 : (CeSheet.low2 wn).length = 2 := rfl
          have l2 : (CeSheet.low2 hn).length = 2 := rfl
          omega
        · refine k _ p2 (s1.trans ((same_new n1).trans (same_new n2))) ?_
          rw [upd_same, vb_length]
          rfl
    · rw [if_neg c] at k
      rw [decide_eq_false c]
      refine iteT ⟨_, rfl, (by show 1 ≤ sizeLine; decide), fun q hq => ?_⟩
      exact k _ q (same_new hq) upd_same
end
end My

namespace My
open PySem PySem.Spec PyProof.Rows L2
open PySem.W (Codec)
theorem all_mk {P : Program} {w : World} {K : PySem.W.Frag} {h : Heap} {mg : Str → Option Value} {fa f1 f2 f3 f4 f5 : Addr} (X : K.In h) (G : h.Ns mainGlobals mg) (hfa : mg "keep" = some (.ref fa))
    {od1 an1 od2 an2 od3 an3 od4 an4 od5 an5 : Option Addr} {sl1 sl2 sl3 sl4 sl5 : Array (Option Value)} {oc1 kV1 dc1 pm1 cd1 ct1 oc2 kV2 dc2 pm2 cd2 ct2 oc3 kV3 dc3 pm3 cd3 ct3 oc4 kV4 dc4 pm4 cd4 ct4 oc5 kV5 dc5 pm5 cd5 ct5 : Value}
    (a1 : PySem.W.nsIn K mainGlobals "keep" = some (some (.ref f1))) (l1 : K.lookup f1 = some ⟨oc1, od1, .func (PySem.W.fnOf "keep" "keep" (defArgs s_keep) (defBody s_keep) (defScope s_keep) .none kV1 dc1 pm1 an1 cd1 ct1), sl1⟩) (c1 : PySem.W.codeIn K cd1 "keep" = true) (k1 : PySem.W.keepIn K (.ref f1) = true)
    (a2 : PySem.W.nsIn K mainGlobals "as_two_bytes" = some (some (.ref f2))) (l2 : K.lookup f2 = some ⟨oc2, od2, .func (PySem.W.fnOf "as_two_bytes" "as_two_bytes" (defArgs s_as_two_bytes) (defBody s_as_two_bytes) (defScope s_as_two_bytes) .none kV2 dc2 pm2 an2 cd2 ct2), sl2⟩) (c2 : PySem.W.codeIn K cd2 "as_two_bytes" = true) (k2 : PySem.W.keepIn K (.ref f2) = true)
    (a3 : PySem.W.nsIn K mainGlobals "row_runs" = some (some (.ref f3))) (l3 : K.lookup f3 = some ⟨oc3, od3, .func (PySem.W.fnOf "row_runs" "row_runs" (defArgs s_row_runs) (defBody s_row_runs) (defScope s_row_runs) .none kV3 dc3 pm3 an3 cd3 ct3), sl3⟩) (c3 : PySem.W.codeIn K cd3 "row_runs" = true) (k3 : PySem.W.keepIn K (.ref f3) = true)
    (a4 : PySem.W.nsIn K mainGlobals "is_side" = some (some (.ref f4))) (l4 : K.lookup f4 = some ⟨oc4, od4, .func (PySem.W.fnOf "is_side" "is_side" (defArgs s_is_side) (defBody s_is_side) (defScope s_is_side) .none kV4 dc4 pm4 an4 cd4 ct4), sl4⟩) (c4 : PySem.W.codeIn K cd4 "is_side" = true) (k4 : PySem.W.keepIn K (.ref f4) = true)
    (a5 : PySem.W.nsIn K mainGlobals "are_points" = some (some (.ref f5))) (l5 : K.lookup f5 = some ⟨oc5, od5, .func (PySem.W.fnOf "are_points" "are_points" (defArgs s_are_points) (defBody s_are_points) (defScope s_are_points) .none kV5 dc5 pm5 an5 cd5 ct5), sl5⟩) (c5 : PySem.W.codeIn K cd5 "are_points" = true) (k5 : PySem.W.keepIn K (.ref f5) = true)
    {a_MARK : Addr} {t_MARK0 t_MARK1 t_MARK2 t_MARK3 : Tok} {o_MARK : Option Addr} {z_MARK : Nat} {y_MARK : Array (Option Value)} (n_MARK : PySem.W.nsIn K mainGlobals "MARK" = some (some (.ref a_MARK))) (m_MARK : K.lookup a_MARK = some ⟨.type "tuple", o_MARK, .seq #[.int 67 t_MARK0, .int 69 t_MARK1, .int 76 t_MARK2, .int 49 t_MARK3] z_MARK, y_MARK⟩)
    {t_LARGEST_SIDE : Tok} (n_LARGEST_SIDE : PySem.W.nsIn K mainGlobals "LARGEST_SIDE" = some (some (.int 256 t_LARGEST_SIDE)))
    (z_len : PySem.W.nsIn K mainGlobals "len" = some none)
    (z_range : PySem.W.nsIn K mainGlobals "range" = some none)
    (z_list : PySem.W.nsIn K mainGlobals "list" = some none) :
    ∃ fd : FuncData, (∀ (s : Shared) (us : List Value), us.length = (["w", "h", "a"] : List Str).length → BindsTo s fd ⟨us, []⟩ ((["w", "h", "a"] : List Str).zip us)) ∧ ∀ base : Heap, K.In base → base.Ns mainGlobals mg → FnOk P w K mg base CX0 3 fa fd ["w", "h", "a"] (spKeep K) := by
  have e := hfa.symm.trans (PySem.W.mg_of X G a1)
  cases e
  have F1 := fun_mk (st := s_keep) l1 c1 k1
  have F2 := fun_mk (st := s_as_two_bytes) l2 c2 k2
  have b2 := F2.binds (ps := ["n"]) fun _ _ _ _ _ _ us hl => match us, hl with | [_], _ => rfl
  have D_as_two_bytes : Df K mg "as_two_bytes" s_as_two_bytes ["n"] := ⟨_, _, F2, PySem.W.mg_of X G a2, b2⟩
  have F3 := fun_mk (st := s_row_runs) l3 c3 k3
  have b3 := F3.binds (ps := ["row"]) fun _ _ _ _ _ _ us hl => match us, hl with | [_], _ => rfl
  have D_row_runs : Df K mg "row_runs" s_row_runs ["row"] := ⟨_, _, F3, PySem.W.mg_of X G a3, b3⟩
  have F4 := fun_mk (st := s_is_side) l4 c4 k4
  have b4 := F4.binds (ps := ["n"]) fun _ _ _ _ _ _ us hl => match us, hl with | [_], _ => rfl
  have D_is_side : Df K mg "is_side" s_is_side ["n"] := ⟨_, _, F4, PySem.W.mg_of X G a4, b4⟩
  have F5 := fun_mk (st := s_are_points) l5 c5 k5
  have b5 := F5.binds (ps := ["a", "w", "h"]) fun _ _ _ _ _ _ us hl => match us, hl with | [_, _, _], _ => rfl
  have D_are_points : Df K mg "are_points" s_are_points ["a", "w", "h"] := ⟨_, _, F5, PySem.W.mg_of X G a5, b5⟩
  have N_MARK : ∃ a, mg "MARK" = some (.ref a) ∧ ∀ H, SqT K H a ([67, 69, 76, 49].map V.int) := ⟨_, PySem.W.mg_of X G n_MARK, fun H => .inr ⟨_, _, _, m_MARK, rfl, rfl, by show 4 ≤ sizeLine; decide, .cons ⟨_, rfl⟩ (.cons ⟨_, rfl⟩ (.cons ⟨_, rfl⟩ (.cons ⟨_, rfl⟩ (.nil))))⟩⟩
  have N_LARGEST_SIDE : Cn mg "LARGEST_SIDE" 256 := ⟨_, PySem.W.mg_of X G n_LARGEST_SIDE⟩
  have Z_len : mg "len" = none := PySem.W.mg_none_of X G z_len
  have Z_range : mg "range" = none := PySem.W.mg_none_of X G z_range
  have Z_list : mg "list" = none := PySem.W.mg_none_of X G z_list
  exact ⟨_, fun s us hu => match us, hu with | [_, _, _], _ => .of_eq rfl, fun base _ _ => ok_keep F1 D_are_points D_is_side D_as_two_bytes D_row_runs N_LARGEST_SIDE N_MARK Z_len Z_range Z_list⟩
end My
open PySem PySem.W PyProof.Rows
set_option maxRecDepth 100000 in
set_option maxHeartbeats 8000000 in
theorem PySem.Challenge.cw_paintsheets_s04_keep_holds : PySem.Challenge.rw_paintsheets_s04_keep.Holds := by
  w_on; k_headS; (case hw => exact ⟨[.int 0, .int 0, .list []], by decide +kernel, by decide +kernel⟩)
  k_fillS
  refine L2.walk_specK (r := PySem.Challenge.rw_paintsheets_s04_keep) (k := 3) (CX := L2.CX0) (ps := ["w", "h", "a"]) (sp := My.spKeep) (by decide +kernel) rfl rfl ⟨rfl, by decide, by decide⟩ (fun w h Y => PySem.W.kIn_of Y) ?F ?S (fun _ _ _ _ z => z)
  case F =>
    intro w mg fa h Y KX G hmg
    refine' My.all_mk KX G hmg ?a1 ?l1 ?c1 ?k1 ?a2 ?l2 ?c2 ?k2 ?a3 ?l3 ?c3 ?k3 ?a4 ?l4 ?c4 ?k4 ?a5 ?l5 ?c5 ?k5 ?n_MARK ?m_MARK ?n_LARGEST_SIDE ?z_len ?z_range ?z_list
    (case a1 => k_is)
    (case l1 => k_is)
    (case c1 => k_is)
    (case k1 => k_is)
    (case a2 => k_is)
    (case l2 => k_is)
    (case c2 => k_is)
    (case k2 => k_is)
    (case a3 => k_is)
    (case l3 => k_is)
    (case c3 => k_is)
    (case k3 => k_is)
    (case a4 => k_is)
    (case l4 => k_is)
    (case c4 => k_is)
    (case k4 => k_is)
    (case a5 => k_is)
    (case l5 => k_is)
    (case c5 => k_is)
    (case k5 => k_is)
    (case n_MARK => k_is)
    (case m_MARK => k_is)
    (case n_LARGEST_SIDE => k_is)
    (case z_len => k_is)
    (case z_range => k_is)
    (case z_list => k_is)
  case S =>
    intro K H xs a hO hwi hask hx
    obtain ⟨wd, hh, ns, u⟩ := a
    cases hx with
    | cons g1 r1 =>
      cases r1 with
      | cons g2 r2 =>
        cases r2 with
        | cons g3 r3 =>
          cases r3
          cases g1
          cases g2
          cases g3 with
          | lst hs ha =>
            have e := L2.ints_dw ns _ ha
            subst e
            have q : (Codec.inInt 0 18446744073709551615 wd && (Codec.inInt 0 18446744073709551615 hh && ((Codec.inLen 0 6144 ns && ns.all (Codec.inInt 0 255)) && true))) = true := hwi
            rw [Bool.and_eq_true, Bool.and_eq_true, Bool.and_eq_true, Bool.and_eq_true] at q
            have hw := My.inInt_of q.1
            have hh' := My.inInt_of q.2.1
            have hlen : ns.length ≤ 6144 := (Codec.inNat_iff.mp q.2.2.1.1).2
            have hall : ∀ x ∈ ns, 0 ≤ x ∧ x ≤ 255 := fun x hxm => My.inInt_of (List.all_eq_true.mp q.2.2.1.2 x hxm)
            obtain ⟨bs, rfl⟩ := My.exists_bytes ns hall
            rw [My.bints_length] at hlen
            refine ⟨_, wd, hh, bs, rfl, hs, hw.1, hh'.1, fun H' p _ hp => ?_⟩
            have e : PyWqasbp.keep wd hh (My.bints bs) = My.keepL wd hh bs := My.keep_due hw.1 hh'.1 bs
            show L2.Dw K H' (.ref p) (WData.list ((PyWqasbp.keep wd hh (My.bints bs)).map WData.int))
            rw [e]
            exact .lst (L2.SqL.of hp) (L2.dw_ints _)
#print axioms PySem.Challenge.cw_paintsheets_s04_keep_holds
