import PyProof.Rows.All
import Wide.All
import OpenK.AllK
import Wide.FinOn
import Open.SpecLaws
import KE.OsGo
import KE.OsHead
import KE.KEqDeep
import HandS.ForSpec
import HandS.Iter
import HandS.Comp
import HandS.Walk
import HandS.Zip
import PySem.Challenge.RW_paintsheets_s11_expose
set_option Elab.async false
set_option maxRecDepth 100000
set_option maxHeartbeats 2000000
namespace My
open CeSheet

/-! ### bytes and whole numbers -/
def bints (bs : List UInt8) : List Int := bs.map fun c => (c.toNat : Int)
theorem bints_length (bs : List UInt8) : (bints bs).length = bs.length := by simp [bints]
theorem bints_append (as bs : List UInt8) : bints (as ++ bs) = bints as ++ bints bs := by simp [bints]
theorem text_bints (bs : List UInt8) : Neutral.text (bints bs) = bs := by
  induction bs with
  | nil => rfl
  | cons c r ih =>
    show UInt8.ofNat ((c.toNat : Int)).toNat :: Neutral.text (bints r) = c :: r
    rw [ih, Int.toNat_natCast, UInt8.ofNat_toNat]
theorem bints_text : ∀ (b : List Int), (∀ x ∈ b, 0 ≤ x ∧ x ≤ 255) → bints (Neutral.text b) = b
  | [], _ => rfl
  | x :: r, h => by
    have hx := h x (List.mem_cons_self ..)
    have ih := bints_text r fun y hy => h y (List.mem_cons_of_mem _ hy)
    show (((UInt8.ofNat x.toNat).toNat : Nat) : Int) :: bints (Neutral.text r) = x :: r
    rw [ih]
    congr 1
    rw [UInt8.toNat_ofNat']
    have : x.toNat % 2 ^ 8 = x.toNat := Nat.mod_eq_of_lt (by omega)
    rw [this]
    omega
theorem exists_bytes (b : List Int) (h : ∀ x ∈ b, 0 ≤ x ∧ x ≤ 255) : ∃ bs : List UInt8, b = bints bs := ⟨Neutral.text b, (bints_text b h).symm⟩
theorem drop_two {bs : List UInt8} {p : Nat} (h : p + 1 < bs.length) : ∃ n q, bs[p]? = some n ∧ bs[p + 1]? = some q ∧ bs.drop p = n :: q :: bs.drop (p + 2) := by
  refine ⟨bs[p], bs[p + 1], List.getElem?_eq_getElem (by omega), List.getElem?_eq_getElem h, ?_⟩
  rw [List.drop_eq_getElem_cons (by omega), List.drop_eq_getElem_cons (i := p + 1) h]

/-! ### the first fault -/
def faultOf {α : Type} : Except Fault α → Option Fault
  | .error e => some e
  | .ok _ => none
/-- what a run that is wanted at a place is blamed for -/
def runF (bs : List UInt8) (place left : Nat) (last : Option UInt8) : Option Fault :=
  match bs.drop place with
  | n :: q :: _ => if left < n.toNat + 1 then some (4, place) else if last = some q then some (5, place) else none
  | _ => some (3, bs.length)
theorem runF_two {bs : List UInt8} {place left : Nat} {last : Option UInt8} {n q : UInt8} {r : List UInt8} (h : bs.drop place = n :: q :: r) :
    runF bs place left last = if left < n.toNat + 1 then some (4, place) else if last = some q then some (5, place) else none := by
  unfold runF
  rw [h]
theorem runF_short {bs : List UInt8} {place left : Nat} {last : Option UInt8} (h : bs.length < place + 2) : runF bs place left last = some (3, bs.length) := by
  unfold runF
  have : (bs.drop place).length < 2 := by rw [List.length_drop]; omega
  match e : bs.drop place with
  | [] => rfl
  | [_] => rfl
  | _ :: _ :: _ =>
    rw [e] at this
    simp only [List.length_cons] at this
    omega
/-- behind a row that is being read: k rows more -/
def contF (w k : Nat) : Except Fault (Bytes × Nat × Bytes) → Option Fault
  | .error e => some e
  | .ok x => faultOf (rowsIn w k x.2.1 x.2.2)
theorem rows_succ (w k p : Nat) (b : Bytes) : faultOf (rowsIn w (k + 1) p b) = contF w k (rowIn w none p b) := by
  rw [rowsIn]
  cases e : rowIn w none p b with
  | error z => rfl
  | ok x =>
    show faultOf (match rowsIn w k x.2.1 x.2.2 with | .error e => Except.error e | .ok l => Except.ok (x.1 ++ l)) = faultOf (rowsIn w k x.2.1 x.2.2)
    cases rowsIn w k x.2.1 x.2.2 <;> rfl
theorem contF_zero (w k p : Nat) (last : Option UInt8) (b : Bytes) : contF w k (rowIn 0 last p b) = faultOf (rowsIn w k p b) := by
  rw [rowIn]
  rfl
theorem rowIn_two (left : Nat) (last : Option UInt8) (p : Nat) (n q : UInt8) (r : Bytes) : rowIn (left + 1) last p (n :: q :: r) =
    if left < n.toNat then .error (4, p) else if last = some q then .error (5, p) else match rowIn (left - n.toNat) (some q) (p + 2) r with
      | .ok x => .ok (List.replicate (n.toNat + 1) q ++ x.1, x.2)
      | .error e => .error e := by
  rw [rowIn]
  rfl
theorem contF_step {w k : Nat} {bs : List UInt8} {place left : Nat} {last : Option UInt8} (hp : place ≤ bs.length) :
    (∀ e, runF bs place (left + 1) last = some e → contF w k (rowIn (left + 1) last place (bs.drop place)) = some e) ∧
    (runF bs place (left + 1) last = none → ∃ n q, bs[place]? = some n ∧ bs[place + 1]? = some q ∧ place + 2 ≤ bs.length ∧ n.toNat ≤ left ∧
      contF w k (rowIn (left + 1) last place (bs.drop place)) = contF w k (rowIn (left - n.toNat) (some q) (place + 2) (bs.drop (place + 2)))) := by
  by_cases h2 : place + 1 < bs.length
  · obtain ⟨n, q, hn, hq, hd⟩ := drop_two h2
    rw [runF_two hd, hd, rowIn_two]
    by_cases c1 : left < n.toNat
    · rw [if_pos (by omega), if_pos c1]
      exact ⟨fun e he => he, fun he => by cases he⟩
    · rw [if_neg (by omega), if_neg c1]
      by_cases c2 : last = some q
      · rw [if_pos c2, if_pos c2]
        exact ⟨fun e he => he, fun he => by cases he⟩
      · rw [if_neg c2, if_neg c2]
        refine ⟨fun e he => (by cases he), fun _ => ⟨n, q, hn, hq, by omega, by omega, ?_⟩⟩
        cases rowIn (left - n.toNat) (some q) (place + 2) (bs.drop (place + 2)) with
        | error z => rfl
        | ok x => rfl
  · rw [runF_short (by omega)]
    refine ⟨fun e he => ?_, fun he => by cases he⟩
    rw [← he]
    by_cases h1 : place = bs.length
    · subst h1
      rw [List.drop_length, rowIn]
      rfl
    · have : (bs.drop place).length = 1 := by rw [List.length_drop]; omega
      match e : bs.drop place with
      | [] => rw [e] at this; simp at this
      | _ :: _ :: _ => rw [e] at this; simp at this
      | [z] =>
        rw [rowIn]
        show some (3, place + 1) = some (3, bs.length)
        rw [show place + 1 = bs.length by omega]
def headF (bs : List UInt8) : Option Fault :=
  if bs.length < 8 ∨ bs.take 4 ≠ MARK then some (1, 0) else if num2 bs 4 < 1 ∨ SIDE < num2 bs 4 then some (2, 4) else if num2 bs 6 < 1 ∨ SIDE < num2 bs 6 then some (2, 6) else none
def runsF (bs : List UInt8) (w h : Nat) : Option Fault := faultOf (rowsIn w h 8 (bs.drop 8))
def judgeF (bs : List UInt8) : Option Fault := faultOf (CeSheet.judge bs)
theorem headF_len {bs : List UInt8} (h : headF bs = none) : 8 ≤ bs.length := by
  unfold headF at h
  by_cases c : bs.length < 8 ∨ bs.take 4 ≠ MARK
  · rw [if_pos c] at h; cases h
  · omega
theorem judgeF_eq (bs : List UInt8) : judgeF bs = match headF bs with
    | some e => some e
    | none => runsF bs (num2 bs 4) (num2 bs 6) := by
  unfold judgeF headF CeSheet.judge
  by_cases c1 : bs.length < 8 ∨ bs.take 4 ≠ MARK
  · rw [if_pos c1, if_pos c1]; rfl
  · rw [if_neg c1, if_neg c1]
    by_cases c2 : num2 bs 4 < 1 ∨ SIDE < num2 bs 4
    · rw [if_pos c2, if_pos c2]; rfl
    · rw [if_neg c2, if_neg c2]
      by_cases c3 : num2 bs 6 < 1 ∨ SIDE < num2 bs 6
      · rw [if_pos c3, if_pos c3]; rfl
      · rw [if_neg c3, if_neg c3]
        show _ = faultOf (rowsIn (num2 bs 4) (num2 bs 6) 8 (bs.drop 8))
        cases rowsIn (num2 bs 4) (num2 bs 6) 8 (bs.drop 8) <;> rfl
/-- behind the rows: what is left -/
theorem rows_zero {w p : Nat} {bs : List UInt8} (hp : p ≤ bs.length) : faultOf (rowsIn w 0 p (bs.drop p)) = if p < bs.length then some (6, p) else none := by
  by_cases h : p < bs.length
  · rw [if_pos h, List.drop_eq_getElem_cons h, rowsIn]
    rfl
  · rw [if_neg h, List.drop_eq_nil_of_le (by omega), rowsIn]
    rfl
theorem num2_eq {bs : List UInt8} {i : Nat} {x y : UInt8} (hx : bs[i]? = some x) (hy : bs[i + 1]? = some y) : num2 bs i = x.toNat + 256 * y.toNat := by
  unfold num2
  rw [List.getD_eq_getElem?_getD, List.getD_eq_getElem?_getD, hx, hy]
  rfl

/-! ### what is due of judge and size -/
def judgeL (bs : List UInt8) : List Int := match judgeF bs with
  | some e => [-6, (e.1 : Int), (e.2 : Int)]
  | none => [0]
theorem judge_due {bs : List UInt8} (h : bs.length ≤ 131080) : PyWqasbp.judge (bints bs) = judgeL bs := by
  show Neutral.shown (if CeSheetSpec.LOOKED < (Neutral.text (bints bs)).length then CeSheetSpec.no 2 else (match CeSheet.judge (Neutral.text (bints bs)) with
    | .error e => .refused 6 [e.1, e.2]
    | .ok _ => .nums [0])) = _
  rw [text_bints, if_neg (by show ¬ 131080 < bs.length; omega)]
  unfold judgeL judgeF
  cases CeSheet.judge bs <;> rfl
def sizeL (bs : List UInt8) : List Int := match judgeF bs with
  | some _ => [-6]
  | none => [(num2 bs 4 : Int), (num2 bs 6 : Int)]
theorem judge_ok {bs : List UInt8} {s : Sheet} (h : CeSheet.judge bs = .ok s) : s.wide = num2 bs 4 ∧ s.high = num2 bs 6 ∧ rowsIn (num2 bs 4) (num2 bs 6) 8 (bs.drop 8) = .ok s.paints := by
  unfold CeSheet.judge at h
  split at h
  · cases h
  · split at h
    · cases h
    · split at h
      · cases h
      · split at h
        · cases h
        · rename_i l e
          cases h
          exact ⟨rfl, rfl, e⟩
theorem size_due {bs : List UInt8} (h : bs.length ≤ 131080) : PyWqasbp.size (bints bs) = sizeL bs := by
  show Neutral.shown (if CeSheetSpec.LOOKED < (Neutral.text (bints bs)).length then CeSheetSpec.no 2 else (match CeSheet.judge (Neutral.text (bints bs)) with
    | .error _ => CeSheetSpec.no 6
    | .ok s => .nums [s.wide, s.high])) = _
  rw [text_bints, if_neg (by show ¬ 131080 < bs.length; omega)]
  unfold sizeL judgeF
  cases e : CeSheet.judge bs with
  | error z => rfl
  | ok s =>
    obtain ⟨h1, h2, _⟩ := judge_ok e
    show [(s.wide : Int), (s.high : Int)] = _
    rw [h1, h2] <;> rfl
end My

namespace My
open CeSheet
/-! ### points: a width, a height and so many -/
def PtsOk (w h : Int) (n : Nat) : Prop := 1 ≤ w ∧ w ≤ 256 ∧ 1 ≤ h ∧ h ≤ 256 ∧ (n : Int) = w * h
instance (w h : Int) (n : Nat) : Decidable (PtsOk w h n) := by unfold PtsOk; exact inferInstance
theorem ptsOk_iff {w h : Int} (hw : 0 ≤ w) (hh : 0 ≤ h) (a : Bytes) : CeSheetSpec.pointsOk a w.toNat h.toNat = true ↔ PtsOk w h a.length := by
  unfold CeSheetSpec.pointsOk CeSheet.sizeOk PtsOk CeSheet.SIDE
  simp only [Bool.and_eq_true, decide_eq_true_eq, beq_iff_eq]
  obtain ⟨m, rfl⟩ := Int.eq_ofNat_of_zero_le hw
  obtain ⟨n, rfl⟩ := Int.eq_ofNat_of_zero_le hh
  simp only [Int.toNat_natCast]
  rw [← Int.natCast_mul]
  omega
end My

namespace My
/-! ### lists of numbers from 0 on -/
def nints (f : List Nat) : List Int := f.map fun n => ((n : Nat) : Int)
theorem nints_length (f : List Nat) : (nints f).length = f.length := List.length_map _
theorem nats_nints (f : List Nat) : Neutral.nats (nints f) = f := by
  unfold Neutral.nats nints
  rw [List.map_map]
  exact List.map_id'' (fun n => by simp) f
theorem exists_nats (ns : List Int) (h : ∀ x ∈ ns, 0 ≤ x ∧ x ≤ 4294967295) : ∃ f : List Nat, nints f = ns := by
  refine ⟨ns.map Int.toNat, ?_⟩
  unfold nints
  rw [List.map_map]
  refine (List.map_congr_left (g := id) fun x hx => ?_).trans (List.map_id _)
  have := (h x hx).1
  show ((x.toNat : Nat) : Int) = x
  omega
theorem mem_nints {f : List Nat} {m : Int} : m ∈ nints f ↔ ∃ n ∈ f, ((n : Nat) : Int) = m := by
  unfold nints
  rw [List.mem_map]
end My

namespace My
open CeSheet
/-! ### film: numbers from 0 on -/
def FilmOk (w h : Int) (f : List Nat) : Prop := (1 ≤ w ∧ w ≤ 256 ∧ 1 ≤ h ∧ h ≤ 256 ∧ (f.length : Int) = 3 * (w * h)) ∧ ∀ n ∈ f, n ≤ 65535
theorem filmOk_iff {w h : Int} (hw : 0 ≤ w) (hh : 0 ≤ h) (f : List Nat) : CeSheetSpec.filmOk f w.toNat h.toNat = true ↔ FilmOk w h f := by
  unfold CeSheetSpec.filmOk CeSheet.sizeOk FilmOk CeSheet.SIDE CeSheet.FULL
  simp only [Bool.and_eq_true, decide_eq_true_eq, beq_iff_eq, List.all_eq_true]
  obtain ⟨m, rfl⟩ := Int.eq_ofNat_of_zero_le hw
  obtain ⟨n, rfl⟩ := Int.eq_ofNat_of_zero_le hh
  simp only [Int.toNat_natCast]
  rw [← Int.natCast_mul]
  constructor
  · rintro ⟨⟨h1, h2, h3, h4⟩, h5, h6⟩
    exact ⟨⟨by omega, by omega, by omega, by omega, by omega⟩, h6⟩
  · rintro ⟨⟨h1, h2, h3, h4, h5⟩, h6⟩
    exact ⟨⟨by omega, by omega, by omega, by omega⟩, by omega, h6⟩
instance (w h : Int) (f : List Nat) : Decidable (FilmOk w h f) := by unfold FilmOk; exact inferInstance
def toned (n : Nat) : Nat := min 255 ((n + 32) / 64)
theorem developed_nums (f : List Nat) : bints (CeSheet.developed f) = f.map fun n => ((toned n : Nat) : Int) := by
  unfold CeSheet.developed bints
  rw [List.map_map]
  refine List.map_congr_left fun n _ => ?_
  show (((UInt8.ofNat (min 255 ((n + 32) / 64))).toNat : Nat) : Int) = ((min 255 ((n + 32) / 64) : Nat) : Int)
  rw [UInt8.toNat_ofNat']
  congr 1
  exact Nat.mod_eq_of_lt (by omega)
theorem developed_length (f : List Nat) : (CeSheet.developed f).length = f.length := by
  unfold CeSheet.developed
  rw [List.length_map]
def developL (w h : Int) (f : List Nat) : List Int := if FilmOk w h f then (f.length : Int) :: (f.map fun n => ((toned n : Nat) : Int)) else [-1]
theorem develop_due {w h : Int} (hw : 0 ≤ w) (hh : 0 ≤ h) (f : List Nat) : PyWqasbp.develop w h (nints f) = developL w h f := by
  show Neutral.shown (if CeSheetSpec.filmOk (Neutral.nats (nints f)) w.toNat h.toNat = true then .bytes (CeSheet.developed (Neutral.nats (nints f))) else CeSheetSpec.no 1) = _
  rw [nats_nints]
  unfold developL
  by_cases c : FilmOk w h f
  · rw [if_pos c, if_pos ((filmOk_iff hw hh f).mpr c)]
    show ((CeSheet.developed f).length : Int) :: bints (CeSheet.developed f) = _
    rw [developed_nums, developed_length]
  · rw [if_neg c, if_neg (fun z => c ((filmOk_iff hw hh f).mp z))]
    rfl
/-- what light a point's paint lets through, of a colour -/
def lightOf (m : Bytes) (p : UInt8) (c : Nat) : Nat := (m.getD (3 * p.toNat + c) 0).toNat
theorem exposed_length (m a : Bytes) (e : Nat) (f : List Nat) : (CeSheet.exposed m a e f).length = 3 * a.length := by
  unfold CeSheet.exposed
  rw [List.length_map, List.length_range]
theorem exposed_at {m a : Bytes} {e : Nat} {f : List Nat} {c j n : Nat} {p : UInt8} (hc : c < 3) (hp : a[j]? = some p) (hn : f[c * a.length + j]? = some n) :
    (CeSheet.exposed m a e f)[c * a.length + j]? = some (min 65535 (n + e * lightOf m p c)) := by
  have hj : j < a.length := by
    by_cases z : j < a.length
    · exact z
    · rw [List.getElem?_eq_none (by omega)] at hp
      cases hp
  have hpos : 0 < a.length := by omega
  have hlt : c * a.length + j < 3 * a.length := by
    have : (c + 1) * a.length ≤ 3 * a.length := Nat.mul_le_mul_right _ hc
    rw [Nat.succ_mul] at this
    omega
  have e1 : (c * a.length + j) % a.length = j := by
    rw [Nat.add_comm, Nat.add_mul_mod_self_right]
    exact Nat.mod_eq_of_lt hj
  have e2 : (c * a.length + j) / a.length = c := by
    rw [Nat.add_comm, Nat.add_mul_div_right _ _ hpos, Nat.div_eq_of_lt hj, Nat.zero_add]
  unfold CeSheet.exposed lightOf
  rw [List.getElem?_map, List.getElem?_range hlt]
  simp only [Option.map_some, Array.getD_eq_getD_getElem?, List.getElem?_toArray]
  rw [e1, e2, hp, hn]
  rw [List.getD_eq_getElem?_getD]
  rfl
def exposeL (w h e : Int) (f : List Nat) (a m : Bytes) : List Int := if FilmOk w h f ∧ PtsOk w h a.length ∧ m.length = 768 ∧ e ≤ 64 then nints (CeSheet.exposed m a e.toNat f) else [-1]
theorem expose_due {w h e : Int} (hw : 0 ≤ w) (hh : 0 ≤ h) (he : 0 ≤ e) (f : List Nat) (a m : Bytes) : PyWqasbp.expose w h e (nints f) (bints a) (bints m) = exposeL w h e f a m := by
  show Neutral.shown (if CeSheetSpec.filmOk (Neutral.nats (nints f)) w.toNat h.toNat = true ∧ CeSheetSpec.pointsOk (Neutral.text (bints a)) w.toNat h.toNat = true ∧ (Neutral.text (bints m)).length = 768 ∧ e.toNat ≤ 64 then .nums (CeSheet.exposed (Neutral.text (bints m)) (Neutral.text (bints a)) e.toNat (Neutral.nats (nints f))) else CeSheetSpec.no 1) = _
  rw [nats_nints, text_bints, text_bints]
  unfold exposeL
  by_cases c : FilmOk w h f ∧ PtsOk w h a.length ∧ m.length = 768 ∧ e ≤ 64
  · rw [if_pos c, if_pos ⟨(filmOk_iff hw hh f).mpr c.1, (ptsOk_iff hw hh a).mpr c.2.1, c.2.2.1, by have := c.2.2.2; omega⟩]
    rfl
  · rw [if_neg c, if_neg (fun z => c ⟨(filmOk_iff hw hh f).mp z.1, (ptsOk_iff hw hh a).mp z.2.1, z.2.2.1, by have := z.2.2.2; omega⟩)]
    rfl
/-! ### the lights of all points, colour by colour -/
def rowOf (m a : Bytes) (c : Nat) : Bytes := a.map fun p => m.getD (3 * p.toNat + c) 0
def rowsOf (m a : Bytes) : Nat → Bytes
  | 0 => []
  | c + 1 => rowsOf m a c ++ rowOf m a c
theorem rowOf_length (m a : Bytes) (c : Nat) : (rowOf m a c).length = a.length := List.length_map _
theorem rowOf_at {m a : Bytes} {c j : Nat} {p : UInt8} (h : a[j]? = some p) : (rowOf m a c)[j]? = some (m.getD (3 * p.toNat + c) 0) := by
  unfold rowOf
  rw [List.getElem?_map, h]
  rfl
theorem rowsOf_length (m a : Bytes) : ∀ c, (rowsOf m a c).length = c * a.length
  | 0 => by rw [Nat.zero_mul]; rfl
  | c + 1 => by
    show (rowsOf m a c ++ rowOf m a c).length = _
    rw [List.length_append, rowsOf_length m a c, rowOf_length, Nat.succ_mul]
theorem rowsOf_at {m a : Bytes} {j : Nat} {p : UInt8} (h : a[j]? = some p) {c : Nat} : ∀ {k}, c < k → (rowsOf m a k)[c * a.length + j]? = some (m.getD (3 * p.toNat + c) 0)
  | 0, hc => absurd hc (by omega)
  | k + 1, hc => by
    have hj : j < a.length := by
      by_cases z : j < a.length
      · exact z
      · rw [List.getElem?_eq_none (by omega)] at h
        cases h
    show (rowsOf m a k ++ rowOf m a k)[c * a.length + j]? = _
    by_cases e : c = k
    · subst e
      rw [List.getElem?_append_right (by rw [rowsOf_length]; omega), rowsOf_length, Nat.add_sub_cancel_left]
      exact rowOf_at h
    · have hlt : c * a.length + j < k * a.length := by
        have : (c + 1) * a.length ≤ k * a.length := Nat.mul_le_mul_right _ (by omega)
        rw [Nat.succ_mul] at this
        omega
      rw [List.getElem?_append_left (by rw [rowsOf_length]; exact hlt)]
      exact rowsOf_at h (by omega)
/-- the number at a place of the film, by the light at that place -/
theorem exposed_light {m a : Bytes} {e : Nat} {f : List Nat} {i n : Nat} {l : UInt8} (hn : f[i]? = some n) (hl : (rowsOf m a 3)[i]? = some l) : (CeSheet.exposed m a e f)[i]? = some (min 65535 (n + e * l.toNat)) := by
  have hi : i < 3 * a.length := by
    by_cases z : i < 3 * a.length
    · exact z
    · rw [List.getElem?_eq_none (by rw [rowsOf_length]; omega)] at hl
      cases hl
  have hpos : 0 < a.length := by omega
  have ei : i / a.length * a.length + i % a.length = i := by rw [Nat.mul_comm]; exact Nat.div_add_mod i a.length
  have hj : i % a.length < a.length := Nat.mod_lt _ hpos
  have hc : i / a.length < 3 := (Nat.div_lt_iff_lt_mul hpos).mpr hi
  have hp := List.getElem?_eq_getElem hj
  have e1 := rowsOf_at (m := m) hp hc
  rw [ei, hl] at e1
  have e2 := exposed_at (m := m) (e := e) hc hp (by rw [ei]; exact hn)
  rw [ei] at e2
  rw [e2, Option.some.inj e1]
  rfl
end My

namespace My
open PySem PySem.Spec PyProof.Rows L2
/-! ### the text by places -/
def topS (i : Nat) : Stmt := PySem.Challenge.pw_paintsheets_s11_expose.main.body.getD i (.Pass ⟨0, 0, 0, 0⟩)
abbrev s_expose : Stmt := topS 6
abbrev s_lights : Stmt := topS 7
abbrev s_exposed : Stmt := topS 8
abbrev s_is_side : Stmt := topS 9
abbrev s_are_points : Stmt := topS 10
abbrev s_is_film : Stmt := topS 11
end My
/-! ### the layer: defs by name, constants, lists of bytes -/
namespace My
open PySem PySem.Spec PyProof.Rows L2
open PySem.W (Codec)
/-- a def of the text as it stands behind the top -/
def Df (K : PySem.W.Frag) (mg : Str → Option Value) (x : Str) (st : Stmt) (ps : List Str) : Prop :=
  ∃ (f : Addr) (fd : FuncData), Fun K x x st f fd ∧ mg x = some (.ref f) ∧ Binds K fd ps []
/-- a def that keeps its promise -/
def Ok (P : Program) (w : World) (K : PySem.W.Frag) (mg : Str → Option Value) (base : Heap) (k : Nat) (x : Str) (ps : List Str) (sp : Sp) : Prop :=
  ∃ (f : Addr) (fd : FuncData), FnOk P w K mg base CX0 k f fd ps sp ∧ mg x = some (.ref f) ∧ PySem.W.keepIn K (.ref f) = true ∧ Binds K fd ps []
theorem pe_ok {X : Cx} {k : Nat} {x : Str} {ps : List Str} {sp : Sp} {e : Expr} {es : List Expr} {t : TA} {p pos : Pos} (c : Ok X.prog X.w X.K X.mg X.base k x ps sp) (hr : Room k X.A) (hg : Gl X x) (ha : PA X (e :: es) t)
    (hdb : (x == ("__debug__" : Str)) = false := by decide) (he : starEach (e :: es) X.env = (false, eval e X.env) :: starEach es X.env := by rfl) (hpl : (backTo pos (starEach es X.env)).any (·.1) = false := by rfl) :
    PE X (.Call (.Name x p) (e :: es) [] pos) (tCall sp [] E0 t) := by
  obtain ⟨f, fd, F, hm, hk, hb⟩ := c
  exact pe_call F hr hg hm hk hb .nil pass0 ha hdb he hpl
/-- a whole number that the top names -/
def Cn (mg : Str → Option Value) (x : Str) (n : Int) : Prop := ∃ t, mg x = some (.int n t)
theorem pe_cn {X : Cx} {x : Str} {n : Int} {pos : Pos} (c : Cn X.mg x n) (hg : Gl X x) (hdb : (x == ("__debug__" : Str)) = false := by decide) : PE X (.Name x pos) (tC (.int n)) := by
  obtain ⟨t, h⟩ := c
  exact pe_glob hg h ⟨t, rfl⟩ (hd := hdb)
def vb (bs : List UInt8) : List V := (bints bs).map V.int
theorem vb_length (bs : List UInt8) : (vb bs).length = bs.length := by unfold vb; rw [List.length_map, bints_length]
theorem vb_get {bs : List UInt8} {i : Nat} {c : UInt8} (h : bs[i]? = some c) : (vb bs)[i]? = some (.int ((c.toNat : Nat) : Int)) := by
  unfold vb bints
  rw [List.getElem?_map, List.getElem?_map, h]
  rfl
theorem vb_at {bs : List UInt8} {i : Nat} {c : UInt8} (h : bs[i]? = some c) : atI (vb bs) ((i : Nat) : Int) = some (.int ((c.toNat : Nat) : Int)) := atI_nat (vb_get h)
theorem vb_at1 {bs : List UInt8} {i : Nat} {c : UInt8} (h : bs[i + 1]? = some c) : atI (vb bs) (((i : Nat) : Int) + 1) = some (.int ((c.toNat : Nat) : Int)) := by
  rw [show ((i : Nat) : Int) + 1 = ((i + 1 : Nat) : Int) by omega]
  exact vb_at h
theorem vb_append (as bs : List UInt8) : vb (as ++ bs) = vb as ++ vb bs := by unfold vb; rw [bints_append, List.map_append]
theorem vb_take (bs : List UInt8) (n : Nat) : (vb bs).take n = vb (bs.take n) := by unfold vb bints; rw [List.map_take, List.map_take]
theorem vb_drop (bs : List UInt8) (n : Nat) : (vb bs).drop n = vb (bs.drop n) := by unfold vb bints; rw [List.map_drop, List.map_drop]
theorem vb_step {bs : List UInt8} {i : Nat} {c : UInt8} (h : bs[i]? = some c) : vb (bs.take (i + 1)) = vb (bs.take i) ++ [.int ((c.toNat : Nat) : Int)] := by
  rw [List.take_add_one, h, vb_append]
  rfl
theorem byte0 (x : UInt8) : decide (V.int ((x.toNat : Nat) : Int) = V.int 0) = decide (x = 0) := by
  refine decide_eq_decide.mpr ⟨fun z => ?_, fun z => ?_⟩
  · have e : ((x.toNat : Nat) : Int) = 0 := V.int.inj z
    exact UInt8.toNat_inj.mp (by show x.toNat = 0; omega)
  · rw [z]
    rfl
theorem same_new {H : Hp} {p : Addr} {o : HO} (h : H p = none) : Same H (upd H p o) := fun b u e => by
  rw [upd_ne (ne_of_none e h)]
  exact e
theorem dp_ints {K : PySem.W.Frag} {H : Hp} : ∀ ns : List Int, DpAll K H (ns.map V.int) (ns.map PyData.int)
  | [] => .nil
  | n :: r => .cons (.int n) (dp_ints r)
theorem eqv_ints (ns ms : List Int) : PyData.eqv (.list (ns.map PyData.int)) (.list (ms.map PyData.int)) = decide (ns = ms) := by
  rw [PyData.eqv]
  exact PySem.W.ked_eqvAll ns ms
theorem bints_inj {as bs : List UInt8} (h : bints as = bints bs) : as = bs := by
  have := congrArg Neutral.text h
  rwa [text_bints, text_bints] at this
theorem inInt_of {lo hi k : Int} (h : Codec.inInt lo hi k = true) : lo ≤ k ∧ k ≤ hi := by
  unfold Codec.inInt at h
  rw [Bool.and_eq_true] at h
  exact ⟨of_decide_eq_true h.1, of_decide_eq_true h.2⟩
end My

namespace My
open PySem PySem.Spec PyProof.Rows L2
open PySem.W (Codec)
/-! ### lists of numbers from 0 on, as values -/
def nv (f : List Nat) : List V := (nints f).map V.int
theorem nv_length (f : List Nat) : (nv f).length = f.length := by unfold nv; rw [List.length_map, nints_length]
theorem nv_get {f : List Nat} {i n : Nat} (h : f[i]? = some n) : (nv f)[i]? = some (.int ((n : Nat) : Int)) := by
  unfold nv nints
  rw [List.getElem?_map, List.getElem?_map, h]
  rfl
theorem nv_append (f g : List Nat) : nv (f ++ g) = nv f ++ nv g := by unfold nv nints; rw [List.map_append, List.map_append]
theorem nv_step {f : List Nat} {i n : Nat} (h : f[i]? = some n) : nv (f.take (i + 1)) = nv (f.take i) ++ [.int ((n : Nat) : Int)] := by
  rw [List.take_add_one, h, nv_append]
  rfl
/-- a place of a list of values -/
theorem nv_lt {f : List Nat} {i : Nat} {v : V} (h : (nv f)[i]? = some v) : i < f.length := by
  by_cases z : i < f.length
  · exact z
  · rw [List.getElem?_eq_none (by rw [nv_length]; omega)] at h
    cases h
theorem vb_lt {b : List UInt8} {i : Nat} {v : V} (h : (vb b)[i]? = some v) : i < b.length := by
  by_cases z : i < b.length
  · exact z
  · rw [List.getElem?_eq_none (by rw [vb_length]; omega)] at h
    cases h
theorem byteEq (x y : UInt8) : decide (V.int ((x.toNat : Nat) : Int) = V.int ((y.toNat : Nat) : Int)) = decide (x = y) := by
  refine decide_eq_decide.mpr ⟨fun z => ?_, fun z => by rw [z]⟩
  have e : ((x.toNat : Nat) : Int) = ((y.toNat : Nat) : Int) := V.int.inj z
  exact UInt8.toNat_inj.mp (by omega)
end My

/-! ### is_side: a width or a height -/
namespace My
open PySem PySem.Spec PyProof.Rows L2
open PySem.W (Codec)
def spSide : Sp := fun vs H Q _ => ∃ n : Int, vs = [.int n] ∧ Q (.bl (decide (1 ≤ n ∧ n ≤ 256))) H
section
variable {P : Program} {w : World} {K : PySem.W.Frag} {mg : Str → Option Value} {base : Heap}
theorem scSide : FnScope ["n"] ["n"] (defScope s_is_side) := ⟨rfl, rfl, rfl, by decide +kernel, rfl, by decide +kernel, by decide +kernel⟩
theorem ok_is_side (D : Df K mg "is_side" s_is_side ["n"]) (cL : Cn mg "LARGEST_SIDE" 256) : Ok P w K mg base 1 "is_side" ["n"] spSide := by
  obtain ⟨f, fd, F, hm, hb⟩ := D
  refine ⟨f, fd, F.ok scSide (fun vs H Q E h => ?_) (fun cdv A outer s H vs Q E hr h => ?_), hm, F.kp, hb⟩
  · obtain ⟨n, rfl, _⟩ := h
    rfl
  · obtain ⟨n, rfl, k⟩ := h
    refine ⟨_, pss_one (ps_ret (pe_chain op_le op_le pe_int (pv 0) (pe_cn cL rfl))), ?_⟩
    refine ⟨_, rfl, _, _, rfl, rfl, _, rfl, ite2 (fun h1 => ⟨_, _, rfl, rfl, ?_⟩) (fun h1 => ?_)⟩
    · have e : decide (1 ≤ n ∧ n ≤ 256) = decide (n ≤ 256) := decide_eq_decide.mpr ⟨fun z => z.2, fun z => ⟨of_decide_eq_true h1, z⟩⟩
      rw [e] at k
      exact k
    · have e : decide (1 ≤ n ∧ n ≤ 256) = false := decide_eq_false fun z => h1 (decide_eq_true z.1)
      rw [e] at k
      exact k
end
end My

/-! ### are_points: a width, a height and so many points -/
namespace My
open PySem PySem.Spec PyProof.Rows L2
open PySem.W (Codec)
def spPoints (K : PySem.W.Frag) : Sp := fun vs H Q _ => ∃ (a : Addr) (xs : List V) (wd hh : Int), vs = [.ref a, .int wd, .int hh] ∧ SqL K H a xs ∧ Q (.bl (decide (PtsOk wd hh xs.length))) H
section
variable {P : Program} {w : World} {K : PySem.W.Frag} {mg : Str → Option Value} {base : Heap}
theorem scPoints : FnScope ["a", "w", "h"] ["a", "w", "h"] (defScope s_are_points) := ⟨rfl, rfl, rfl, by decide +kernel, rfl, by decide +kernel, by decide +kernel⟩
theorem ok_are_points (D : Df K mg "are_points" s_are_points ["a", "w", "h"]) (D1 : Df K mg "is_side" s_is_side ["n"]) (cL : Cn mg "LARGEST_SIDE" 256) (zlen : mg "len" = none) : Ok P w K mg base 2 "are_points" ["a", "w", "h"] (spPoints K) := by
  have C1 : Ok P w K mg base 1 "is_side" ["n"] spSide := ok_is_side D1 cL
  obtain ⟨f, fd, F, hm, hb⟩ := D
  refine ⟨f, fd, F.ok scPoints (fun vs H Q E h => ?_) (fun cdv A outer s H vs Q E hr h => ?_), hm, F.kp, hb⟩
  · obtain ⟨a, xs, wd, hh, rfl, _⟩ := h
    rfl
  · obtain ⟨a, xs, wd, hh, rfl, hS, k⟩ := h
    refine ⟨_, pss_one (ps_ret (pe_and (pe_ok C1 hr rfl (pa_cons (pv 1) pa_nil)) (pe_and (pe_ok C1 hr rfl (pa_cons (pv 2) pa_nil)) (pe_one (pe_cmpR op_eq (pe_callB call_len_seq (by rfl) zlen PySem.boot_len (pa_cons (pv 0) pa_nil)) (pe_op op_mul (pv 1) (pv 2)) (nomark _)))))), ?_⟩
    have no : ¬ PtsOk wd hh xs.length → Q (.bl false) H := fun z => by
      rw [decide_eq_false z] at k
      exact k
    refine ⟨_, rfl, _, rfl, _, rfl, ite2 (fun c1 => ?_) (fun c1 => ?_)⟩
    · have c1' := of_decide_eq_true c1
      refine ⟨_, rfl, _, rfl, _, rfl, ite2 (fun c2 => ?_) (fun c2 => ?_)⟩
      · have c2' := of_decide_eq_true c2
        refine ⟨_, rfl, a, _, rfl, .inl hS, _, rfl, _, rfl, _, _, rfl, rfl, .inl ⟨by omega, by omega⟩, rfl, ?_⟩
        have e : decide (V.int ((xs.length : Nat) : Int) = V.int (wd * hh)) = decide (PtsOk wd hh xs.length) := decide_eq_decide.mpr ⟨fun z => ⟨c1'.1, c1'.2, c2'.1, c2'.2, V.int.inj z⟩, fun z => congrArg V.int z.2.2.2.2⟩
        rw [← e] at k
        exact k
      · exact no fun z => c2 (decide_eq_true ⟨z.2.2.1, z.2.2.2.1⟩)
    · exact no fun z => c1 (decide_eq_true ⟨z.1, z.2.1⟩)
end
end My

namespace My
open PySem PySem.Spec PyProof.Rows L2
open PySem.W (Codec)
theorem same_off {H0 H : Hp} {l : Addr} {o : HO} (s : Same H0 H) (h : H0 l = none) : Same H0 (upd H l o) := fun b u e => by
  rw [upd_ne (ne_of_none e h)]
  exact s b u e
theorem rgc_up {a b c : Int} {n : Nat} (hc : 0 < c) (hc2 : c < 1073741824) (ha : -(2 ^ 61) ≤ a) (ha' : a < 2 ^ 61) (hb : -(2 ^ 61) ≤ b) (hb' : b < 2 ^ 61) (hn : (if a < b then (b - a - 1) / c + 1 else 0) = (n : Int)) (hn2 : (n : Int) < 2 ^ 62) : RgC a b c n := by
  have e : Builtin.Range.rangeSize a b c = (n : Int) := by
    unfold Builtin.Range.rangeSize
    rw [if_pos (show c > 0 from hc)]
    exact hn
  refine ⟨by omega, by omega, ?_, e⟩
  unfold Builtin.Range.small
  rw [e]
  simp only [Builtin.Range.rangeFitsLong, Bool.and_eq_true, Bool.or_eq_true, decide_eq_true_eq, beq_iff_eq, if_pos (show c > 0 from hc)]
  omega
end My

/-! ### is_film: so many numbers, none too great -/
namespace My
open PySem PySem.Spec PyProof.Rows L2
open PySem.W (Codec)
def spFilm (K : PySem.W.Frag) : Sp := fun vs H Q _ => ∃ (a : Addr) (fs : List Nat) (wd hh : Int), vs = [.ref a, .int wd, .int hh] ∧ SqL K H a (nv fs) ∧ Q (.bl (decide (FilmOk wd hh fs))) H
section
variable {P : Program} {w : World} {K : PySem.W.Frag} {mg : Str → Option Value} {base : Heap}
theorem scFilm : FnScope ["film", "w", "h"] ["film", "w", "h"] (defScope s_is_film) := ⟨rfl, rfl, rfl, by decide +kernel, rfl, by decide +kernel, by decide +kernel⟩
theorem ok_is_film (D : Df K mg "is_film" s_is_film ["film", "w", "h"]) (D1 : Df K mg "is_side" s_is_side ["n"]) (cL : Cn mg "LARGEST_SIDE" 256) (cN : Cn mg "COLOURS" 3) (cF : Cn mg "LARGEST_FILM_NUMBER" 65535) (zlen : mg "len" = none) (zmax : mg "max" = none) : Ok P w K mg base 2 "is_film" ["film", "w", "h"] (spFilm K) := by
  have C1 : Ok P w K mg base 1 "is_side" ["n"] spSide := ok_is_side D1 cL
  obtain ⟨f, fd, F, hm, hb⟩ := D
  refine ⟨f, fd, F.ok scFilm (fun vs H Q E h => ?_) (fun cdv A outer s H vs Q E hr h => ?_), hm, F.kp, hb⟩
  · obtain ⟨a, fs, wd, hh, rfl, _⟩ := h
    rfl
  · obtain ⟨a, fs, wd, hh, rfl, hS, k⟩ := h
    refine ⟨_, pss_cons (ps_if (PW.pt (pw_or (pt_not (pt_val (pe_ok C1 hr rfl (pa_cons (pv 1) pa_nil)))) (pw_or (pt_not (pt_val (pe_ok C1 hr rfl (pa_cons (pv 2) pa_nil))))
        (pw_or1 (pt_cmpR op_ne (pe_callB call_len_seq (by rfl) zlen PySem.boot_len (pa_cons (pv 0) pa_nil)) (pe_op op_mul (pe_op op_mul (pe_cn cN rfl) (pv 1)) (pv 2)) (nomark _))))))
        (pss_one (ps_ret (pe_bl))) pss_nil)
      (pss_one (ps_ret (pe_cmpR op_le (pe_callB (cr_max rfl) (by rfl) zmax (by decide +kernel) (pa_cons (pv 0) pa_nil)) (pe_cn cF rfl) (nomark _)))), ?_⟩
    have no : ¬ FilmOk wd hh fs → Q (.bl false) H := fun z => by
      rw [decide_eq_false z] at k
      exact k
    refine ⟨_, rfl, _, rfl, _, rfl, ?_⟩
    by_cases c1 : 1 ≤ wd ∧ wd ≤ 256
    · rw [decide_eq_true c1]
      refine iteF ⟨_, rfl, _, rfl, _, rfl, ?_⟩
      by_cases c2 : 1 ≤ hh ∧ hh ≤ 256
      · rw [decide_eq_true c2]
        refine iteF ⟨_, rfl, a, _, rfl, .inl hS, _, rfl, _, _, rfl, rfl, .inl ⟨by omega, by omega⟩, _, rfl, _, _, rfl, rfl, .inl ⟨by omega, by omega⟩, rfl, _, rfl, ?_⟩
        rw [nv_length]
        have em : 3 * wd * hh = 3 * (wd * hh) := Int.mul_assoc _ _ _
        by_cases c3 : ((fs.length : Nat) : Int) = 3 * (wd * hh)
        · have e3 : decide (V.int ((fs.length : Nat) : Int) = V.int (3 * wd * hh)) = true := decide_eq_true (by rw [em, c3])
          rw [e3]
          have hpos : 0 < fs.length := by
            have : 0 < wd * hh := Int.mul_pos (by omega) (by omega)
            omega
          refine iteF ⟨_, rfl, a, nints fs, rfl, hS, by rw [nints_length]; exact hpos, fun m hm1 hm2 => ?_⟩
          have e4 : decide (FilmOk wd hh fs) = decide (m ≤ 65535) := decide_eq_decide.mpr ⟨fun z => ?_, fun z => ⟨⟨c1.1, c1.2, c2.1, c2.2, c3⟩, fun n hn => ?_⟩⟩
          · rw [e4] at k
            exact ⟨_, _, rfl, rfl, k⟩
          · obtain ⟨n, hn, rfl⟩ := mem_nints.mp hm1
            have := z.2 n hn
            omega
          · have := hm2 _ (mem_nints.mpr ⟨n, hn, rfl⟩)
            omega
        · have e3 : decide (V.int ((fs.length : Nat) : Int) = V.int (3 * wd * hh)) = false := decide_eq_false (fun z => c3 (by rw [← em]; exact V.int.inj z))
          rw [e3]
          exact iteT (no fun z => c3 z.1.2.2.2.2)
      · rw [decide_eq_false c2]
        exact iteT (iteT (no fun z => c2 ⟨z.1.2.2.1, z.1.2.2.2.1⟩))
    · rw [decide_eq_false c1]
      exact iteT (iteT (no fun z => c1 ⟨z.1.1, z.1.2.1⟩))
end
end My

/-! ### expose: light on film -/
namespace My
open PySem PySem.Spec PyProof.Rows L2
open PySem.W (Codec)
def spLit : Sp := fun vs H Q _ => ∃ (n e : Nat) (l : UInt8), vs = [.int ((n : Nat) : Int), .int ((e : Nat) : Int), .int ((l.toNat : Nat) : Int)] ∧ e ≤ 64 ∧ Q (.int ((min 65535 (n + e * l.toNat) : Nat) : Int)) H
def spLights (K : PySem.W.Frag) : Sp := fun vs H Q _ => ∃ (a m : Addr) (bs ms : List UInt8), vs = [.ref a, .ref m] ∧ SqL K H a (vb bs) ∧ SqL K H m (vb ms) ∧ bs.length ≤ 6144 ∧ ms.length = 768 ∧ ∀ H' p, Same H H' → H' p = some (.lst (vb (rowsOf ms bs 3))) → Q (.ref p) H'
def spExpose (K : PySem.W.Frag) : Sp := fun vs H Q _ => ∃ (f a m : Addr) (wd hh e : Int) (fs : List Nat) (bs ms : List UInt8), vs = [.int wd, .int hh, .int e, .ref f, .ref a, .ref m] ∧ SqL K H f (nv fs) ∧ SqL K H a (vb bs) ∧ SqL K H m (vb ms) ∧ bs.length ≤ 6144 ∧ 0 ≤ e ∧
  ∀ H' p, Same H H' → H' p = some (.lst ((exposeL wd hh e fs bs ms).map V.int)) → Q (.ref p) H'
section
variable {P : Program} {w : World} {K : PySem.W.Frag} {mg : Str → Option Value} {base : Heap}
theorem scLit : FnScope ["number", "e", "light"] ["number", "e", "light"] (defScope s_exposed) := ⟨rfl, rfl, rfl, by decide +kernel, rfl, by decide +kernel, by decide +kernel⟩
theorem ok_exposed (D : Df K mg "exposed" s_exposed ["number", "e", "light"]) (cF : Cn mg "LARGEST_FILM_NUMBER" 65535) (zmin : mg "min" = none) : Ok P w K mg base 1 "exposed" ["number", "e", "light"] spLit := by
  obtain ⟨f, fd, F, hm, hb⟩ := D
  refine ⟨f, fd, F.ok scLit (fun vs H Q E h => ?_) (fun cdv A outer s H vs Q E hr h => ?_), hm, F.kp, hb⟩
  · obtain ⟨n, e, l, rfl, _⟩ := h
    rfl
  · obtain ⟨n, e, l, rfl, he, k⟩ := h
    refine ⟨_, pss_one (ps_ret (pe_callB (call_min2 rfl) (by rfl) zmin (by decide +kernel) (pa_cons (pe_cn cF rfl) (pa_cons (pe_op op_add (pv 0) (pe_op op_mul (pv 1) (pv 2))) pa_nil)))), ?_⟩
    refine ⟨_, rfl, _, rfl, _, rfl, _, _, rfl, rfl, .inl ⟨by omega, by omega⟩, _, _, rfl, rfl, _, _, rfl, ?_⟩
    have e : ((min 65535 (n + e * l.toNat) : Nat) : Int) = if ((n : Nat) : Int) + ((e : Nat) : Int) * ((l.toNat : Nat) : Int) < 65535 then ((n : Nat) : Int) + ((e : Nat) : Int) * ((l.toNat : Nat) : Int) else 65535 := by
      rw [← Int.natCast_mul, ← Int.natCast_add]
      generalize n + e * l.toNat = z
      by_cases c : ((z : Nat) : Int) < 65535
      · rw [if_pos c]
        omega
      · rw [if_neg c]
        omega
    rw [← e]
    exact k
theorem scLights : FnScope ["a", "model", "found", "colour", "paint"] ["a", "model"] (defScope s_lights) := ⟨rfl, rfl, rfl, by decide +kernel, rfl, by decide +kernel, by decide +kernel⟩
theorem ok_lights (D : Df K mg "lights" s_lights ["a", "model"]) (cN : Cn mg "COLOURS" 3) (zrange : mg "range" = none) : Ok P w K mg base 1 "lights" ["a", "model"] (spLights K) := by
  obtain ⟨f, fd, F, hm, hb⟩ := D
  refine ⟨f, fd, F.ok scLights (fun vs H Q E h => ?_) (fun cdv A outer s H vs Q E hr h => ?_), hm, F.kp, hb⟩
  · obtain ⟨a, m, bs, ms, rfl, _⟩ := h
    rfl
  · obtain ⟨a, m, bs, ms, rfl, hS, hM, hsz, h768, k⟩ := h
    have line : sizeLine = 16777216 := by decide
    refine ⟨_, pss_cons (ps_set (i := 2) scLights.nd rfl (Or.inl rfl) (pe_lst pa_nil))
      (pss_cons (ps_for PassesOwn.never rfl (pi_range1 rfl zrange (pa_cons (pe_cn cN rfl) pa_nil)) (pg_name (i := 3) scLights.nd rfl (Or.inr rfl))
        (pss_one (ps_expr (pe_bm PySem.F.plainAttrs_list PySem.F.slot_list_extend PySem.F.type_list_extend mt_extend (pv 2)
          (pa_cons (pe_lc (own := [("paint", 4)]) (g := gName 4) (tt := tYes) rfl scLights.nd (pi_list (pv 0)) (blkOk_by (N := ["a", "model", "found", "colour", "paint"]) (sc := defScope s_lights) (by decide +kernel))
            (fun _ _ _ _ _ => pg_name (i := 4) scLights.nd rfl (Or.inl rfl)) (fun _ _ _ _ _ => pts_nil)
            (fun _ _ _ _ _ => pe_ix (r := rIxL K) ix_list (pv 1) (pe_op op_add (pe_op op_mul (pe_cn cN rfl) (pv 4)) (pv 3)) (fun _ _ => rfl))) pa_nil)))))
      (pss_one (ps_ret (pv 2)))), ?_⟩
    refine ⟨Nat.zero_le _, fun l hl5 => ?_⟩
    refine ⟨(3 : Int), rfl, by omega, by omega, ?_⟩
    refine for_range (lo := 0) (n := 3) (fun i σ H' => Same H H' ∧ ∃ (vc vp : Option V), σ = [some (.ref a), some (.ref m), some (.ref l), vc, vp] ∧ H' l = some (.lst (vb (rowsOf ms bs i))))
      ⟨same_new hl5, none, none, rfl, upd_same⟩ ?_ ?_
    · rintro i σ H' hi ⟨s1, vc, vp, rfl, hL⟩
      have es : (0 : Int) + ((i : Nat) : Int) = ((i : Nat) : Int) := by omega
      rw [es]
      refine ⟨_, rfl, .inl ⟨rfl, _, SqL.of hL⟩, _, rfl, a, rfl, ⟨_, s1.seq hS⟩, fun D hD => ?_⟩
      refine lc_list (K := K) (a := a) (xs := vb bs) (fun j H2 => Same H' H2 ∧ H2 D = some (.lst (vb ((rowOf ms bs i).take j)))) ⟨same_new hD, upd_same⟩ (fun j H2 _ z => (s1.trans z.1).seq hS) ?_ ?_
      · rintro j v H2 ex ⟨s2, hL2⟩
        have hj := vb_lt ex
        obtain ⟨u, hu⟩ : ∃ u, bs[j]? = some u := ⟨_, List.getElem?_eq_getElem hj⟩
        cases Option.some.inj ((vb_get hu).symm.trans ex)
        have hp : 3 * u.toNat + i < ms.length := by
          have := u.toNat_lt
          rw [h768]
          omega
        have hget : ms[3 * u.toNat + i]? = some (ms.getD (3 * u.toNat + i) 0) := by
          rw [List.getD_eq_getElem?_getD, List.getElem?_eq_getElem hp]
          rfl
        refine ⟨rfl, _, rfl, _, rfl, _, _, rfl, rfl, .inl ⟨by omega, by omega⟩, _, rfl, _, _, rfl, rfl, m, _, _, .int (((ms.getD (3 * u.toNat + i) 0).toNat : Nat) : Int), rfl, rfl, (s1.trans s2).seq hM, ?_, _, hL2, ?_, same_off s2 hD, ?_⟩
        · rw [show (3 : Int) * ((u.toNat : Nat) : Int) + ((i : Nat) : Int) = ((3 * u.toNat + i : Nat) : Int) by omega]
          exact vb_at hget
        · rw [vb_length, List.length_take]
          omega
        · rw [upd_same, vb_step (rowOf_at hu)]
      · rintro H2 ⟨s2, hL2⟩
        rw [vb_length, List.take_of_length_le (by rw [rowOf_length]; exact Nat.le_refl _)] at hL2
        have hl0 : H l = none := hl5
        refine ⟨l, D, _, _, rfl, rfl, s2 _ _ hL, hL2, ?_, same_off (s1.trans s2) hl0, _, _, rfl, ?_⟩
        · rw [vb_length, vb_length, rowsOf_length, rowOf_length]
          have : i * bs.length ≤ 3 * bs.length := Nat.mul_le_mul_right _ (by omega)
          omega
        · rw [upd_same, ← vb_append]
          rfl
    · rintro σ H' ⟨s1, vc, vp, rfl, hL⟩
      exact ⟨_, rfl, k _ l s1 hL⟩
theorem scExpose : FnScope ["w", "h", "e", "film", "a", "model", "number", "light"] ["w", "h", "e", "film", "a", "model"] (defScope s_expose) := ⟨rfl, rfl, rfl, by decide +kernel, rfl, by decide +kernel, by decide +kernel⟩
theorem ok_expose {f : Addr} {fd : FuncData} (F : Fun K "expose" "expose" s_expose f fd) (D1 : Df K mg "are_points" s_are_points ["a", "w", "h"]) (D2 : Df K mg "is_side" s_is_side ["n"]) (D3 : Df K mg "is_film" s_is_film ["film", "w", "h"]) (D4 : Df K mg "lights" s_lights ["a", "model"]) (D5 : Df K mg "exposed" s_exposed ["number", "e", "light"])
    (cL : Cn mg "LARGEST_SIDE" 256) (cN : Cn mg "COLOURS" 3) (cM : Cn mg "MODEL_BYTES" 768) (cE : Cn mg "LARGEST_EXPOSURE" 64) (cF : Cn mg "LARGEST_FILM_NUMBER" 65535) (zlen : mg "len" = none) (zmax : mg "max" = none) (zmin : mg "min" = none) (zrange : mg "range" = none) (zzip : mg "zip" = none) : FnOk P w K mg base CX0 3 f fd ["w", "h", "e", "film", "a", "model"] (spExpose K) := by
  have C1 : Ok P w K mg base 2 "are_points" ["a", "w", "h"] (spPoints K) := ok_are_points D1 D2 cL zlen
  have C2 : Ok P w K mg base 2 "is_film" ["film", "w", "h"] (spFilm K) := ok_is_film D3 D2 cL cN cF zlen zmax
  have C3 : Ok P w K mg base 1 "lights" ["a", "model"] (spLights K) := ok_lights D4 cN zrange
  have C4 : Ok P w K mg base 1 "exposed" ["number", "e", "light"] spLit := ok_exposed D5 cF zmin
  refine F.ok scExpose (fun vs H Q E h => ?_) (fun cdv A outer s H vs Q E hr h => ?_)
  · obtain ⟨f, a, m, wd, hh, e, fs, bs, ms, rfl, _⟩ := h
    rfl
  · obtain ⟨f, a, m, wd, hh, e, fs, bs, ms, rfl, hF, hS, hM, hsz, he0, k⟩ := h
    have hr1 : Room 1 _ := hr.mono (by decide)
    have line : sizeLine = 16777216 := by decide
    refine ⟨_, pss_cons (ps_if (PW.pt (pw_or (pt_not (pt_val (pe_ok C1 hr rfl (pa_cons (pv 4) (pa_cons (pv 0) (pa_cons (pv 1) pa_nil)))))) (pw_or1 (pt_not (pt_val (pe_ok C2 hr rfl (pa_cons (pv 3) (pa_cons (pv 0) (pa_cons (pv 1) pa_nil)))))))))
        (pss_one (ps_ret (pe_lst (pa_cons (pe_un un_neg pe_int) pa_nil)))) pss_nil)
      (pss_cons (ps_if (PW.pt (pw_or (pt_cmpR op_ne (pe_callB call_len_seq (by rfl) zlen PySem.boot_len (pa_cons (pv 5) pa_nil)) (pe_cn cM rfl) (nomark _)) (pw_or1 (pt_cmpR op_gt (pv 2) (pe_cn cE rfl) (nomark _)))))
        (pss_one (ps_ret (pe_lst (pa_cons (pe_un un_neg pe_int) pa_nil)))) pss_nil)
      (pss_one (ps_ret (pe_lc (own := [("number", 6), ("light", 7)]) (g := gTup K 2 (gCons (gName 6) (gCons (gName 7) gNil))) (tt := tYes) rfl scExpose.nd
          (pi_zip (by rfl) zzip (pa_cons (pv 3) (pa_cons (pe_ok C3 hr1 rfl (pa_cons (pv 4) (pa_cons (pv 5) pa_nil))) pa_nil)))
          (blkOk_by (N := ["w", "h", "e", "film", "a", "model", "number", "light"]) (sc := defScope s_expose) (by decide +kernel))
          (fun _ _ _ _ _ => pg_tup rfl (pgs_cons (pg_name (i := 6) scExpose.nd rfl (Or.inl rfl)) (pgs_cons (pg_name (i := 7) scExpose.nd rfl (Or.inl rfl)) pgs_nil))) (fun _ _ _ _ _ => pts_nil)
          (fun _ _ _ _ _ => pe_ok C4 hr1 rfl (pa_cons (pv 6) (pa_cons (pv 2) (pa_cons (pv 7) pa_nil)))))))), ?_⟩
    unfold exposeL at k
    have bad : ¬ (FilmOk wd hh fs ∧ PtsOk wd hh bs.length ∧ ms.length = 768 ∧ e ≤ 64) → ∀ q, H q = none → Q (.ref q) (upd H q (.lst [.int (-1)])) := fun c q hq => by
      rw [if_neg c] at k
      exact k _ q (same_new hq) upd_same
    refine ⟨_, rfl, _, rfl, _, rfl, a, _, wd, hh, rfl, hS, _, rfl, ?_⟩
    rw [vb_length]
    by_cases c1 : PtsOk wd hh bs.length
    · rw [decide_eq_true c1]
      refine iteF ⟨_, rfl, _, rfl, _, rfl, f, fs, wd, hh, rfl, hF, _, rfl, ?_⟩
      by_cases c2 : FilmOk wd hh fs
      · rw [decide_eq_true c2]
        refine iteF ⟨_, rfl, m, _, rfl, .inl hM, rfl, _, rfl, ?_⟩
        rw [vb_length]
        by_cases c3 : ms.length = 768
        · have e3 : decide (V.int ((ms.length : Nat) : Int) = V.int 768) = true := decide_eq_true (by rw [c3]; rfl)
          rw [e3]
          refine iteF ⟨_, rfl, _, _, rfl, rfl, _, rfl, ite2 (fun c => ?_) (fun c => ?_)⟩
          · have c4 := of_decide_eq_true c
            exact ⟨_, rfl, (by show 1 ≤ sizeLine; decide), bad fun z => absurd z.2.2.2 (by omega)⟩
          · have c4 : e ≤ 64 := by
              by_cases z : e ≤ 64
              · exact z
              · exact absurd (decide_eq_true (show (64 : Int) < e by omega)) c
            rw [if_pos ⟨c2, c1, c3, c4⟩] at k
            obtain ⟨en, rfl⟩ := Int.eq_ofNat_of_zero_le he0
            simp only [Int.toNat_natCast] at k
            have hln : fs.length = 3 * bs.length := by
              have e1 := c1.2.2.2.2
              have e2 := c2.1.2.2.2.2
              rw [← e1] at e2
              omega
            have hxl := exposed_length ms bs en fs
            have hrl := rowsOf_length ms bs 3
            refine ⟨_, rfl, _, rfl, _, rfl, a, m, bs, ms, rfl, hS, hM, hsz, c3, fun H1 p s1 hp => ?_⟩
            refine ⟨f, p, _, _, rfl, s1.seq hF, SqL.of hp, fun D hD => ?_⟩
            refine lc_it (walk_zip (xs := nv fs) (ys := vb (rowsOf ms bs 3)) (n := fs.length) (by rw [nv_length, vb_length, hrl]; omega)) (fun i H' => Same H1 H' ∧ H' D = some (.lst (nv ((CeSheet.exposed ms bs en fs).take i))))
              ⟨same_new hD, upd_same⟩ (fun i H' _ z => ⟨(s1.trans z.1).seq hF, z.1.seq (SqL.of hp)⟩) ?_ ?_
            · rintro i v H' H'' hi ⟨s2, hL⟩ ⟨T, x, y, rfl, hT2, rfl, ex, ey⟩
              have hi2 := vb_lt ey
              obtain ⟨n, hn⟩ : ∃ n, fs[i]? = some n := ⟨_, List.getElem?_eq_getElem hi⟩
              obtain ⟨l, hl2⟩ : ∃ l, (rowsOf ms bs 3)[i]? = some l := ⟨_, List.getElem?_eq_getElem hi2⟩
              cases Option.some.inj ((nv_get hn).symm.trans ex)
              cases Option.some.inj ((vb_get hl2).symm.trans ey)
              refine ⟨T, _, rfl, SqT.of upd_same, rfl, _, _, rfl, _, _, rfl, rfl, rfl, _, rfl, _, rfl, _, rfl, n, en, l, rfl, by omega, ?_⟩
              have ne : D ≠ T := ne_of_none hL hT2
              refine ⟨_, by rw [upd_ne ne]; exact hL, ?_, same_off (s2.trans (same_new hT2)) hD, ?_⟩
              · rw [nv_length, List.length_take]
                omega
              · rw [upd_same, nv_step (exposed_light hn hl2)]
            · rintro H' ⟨s2, hL⟩
              rw [hln, ← hxl, List.take_length] at hL
              exact k _ D (s1.trans s2) hL
        · have e3 : decide (V.int ((ms.length : Nat) : Int) = V.int 768) = false := decide_eq_false (fun z => c3 (by have := V.int.inj z; omega))
          rw [e3]
          exact iteT (iteT ⟨_, rfl, (by show 1 ≤ sizeLine; decide), bad fun z => c3 z.2.2.1⟩)
      · rw [decide_eq_false c2]
        exact iteT ⟨_, rfl, (by show 1 ≤ sizeLine; decide), bad fun z => c2 z.1⟩
    · rw [decide_eq_false c1]
      exact iteT (iteT ⟨_, rfl, (by show 1 ≤ sizeLine; decide), bad fun z => c1 z.2.1⟩)
end
end My

namespace My
open PySem PySem.Spec PyProof.Rows L2
open PySem.W (Codec)
theorem all_mk {P : Program} {w : World} {K : PySem.W.Frag} {h : Heap} {mg : Str → Option Value} {fa f1 f2 f3 f4 f5 f6 : Addr} (X : K.In h) (G : h.Ns mainGlobals mg) (hfa : mg "expose" = some (.ref fa))
    {od1 an1 od2 an2 od3 an3 od4 an4 od5 an5 od6 an6 : Option Addr} {sl1 sl2 sl3 sl4 sl5 sl6 : Array (Option Value)} {oc1 kV1 dc1 pm1 cd1 ct1 oc2 kV2 dc2 pm2 cd2 ct2 oc3 kV3 dc3 pm3 cd3 ct3 oc4 kV4 dc4 pm4 cd4 ct4 oc5 kV5 dc5 pm5 cd5 ct5 oc6 kV6 dc6 pm6 cd6 ct6 : Value}
    (a1 : PySem.W.nsIn K mainGlobals "expose" = some (some (.ref f1))) (l1 : K.lookup f1 = some ⟨oc1, od1, .func (PySem.W.fnOf "expose" "expose" (defArgs s_expose) (defBody s_expose) (defScope s_expose) .none kV1 dc1 pm1 an1 cd1 ct1), sl1⟩) (c1 : PySem.W.codeIn K cd1 "expose" = true) (k1 : PySem.W.keepIn K (.ref f1) = true)
    (a2 : PySem.W.nsIn K mainGlobals "lights" = some (some (.ref f2))) (l2 : K.lookup f2 = some ⟨oc2, od2, .func (PySem.W.fnOf "lights" "lights" (defArgs s_lights) (defBody s_lights) (defScope s_lights) .none kV2 dc2 pm2 an2 cd2 ct2), sl2⟩) (c2 : PySem.W.codeIn K cd2 "lights" = true) (k2 : PySem.W.keepIn K (.ref f2) = true)
    (a3 : PySem.W.nsIn K mainGlobals "exposed" = some (some (.ref f3))) (l3 : K.lookup f3 = some ⟨oc3, od3, .func (PySem.W.fnOf "exposed" "exposed" (defArgs s_exposed) (defBody s_exposed) (defScope s_exposed) .none kV3 dc3 pm3 an3 cd3 ct3), sl3⟩) (c3 : PySem.W.codeIn K cd3 "exposed" = true) (k3 : PySem.W.keepIn K (.ref f3) = true)
    (a4 : PySem.W.nsIn K mainGlobals "is_side" = some (some (.ref f4))) (l4 : K.lookup f4 = some ⟨oc4, od4, .func (PySem.W.fnOf "is_side" "is_side" (defArgs s_is_side) (defBody s_is_side) (defScope s_is_side) .none kV4 dc4 pm4 an4 cd4 ct4), sl4⟩) (c4 : PySem.W.codeIn K cd4 "is_side" = true) (k4 : PySem.W.keepIn K (.ref f4) = true)
    (a5 : PySem.W.nsIn K mainGlobals "are_points" = some (some (.ref f5))) (l5 : K.lookup f5 = some ⟨oc5, od5, .func (PySem.W.fnOf "are_points" "are_points" (defArgs s_are_points) (defBody s_are_points) (defScope s_are_points) .none kV5 dc5 pm5 an5 cd5 ct5), sl5⟩) (c5 : PySem.W.codeIn K cd5 "are_points" = true) (k5 : PySem.W.keepIn K (.ref f5) = true)
    (a6 : PySem.W.nsIn K mainGlobals "is_film" = some (some (.ref f6))) (l6 : K.lookup f6 = some ⟨oc6, od6, .func (PySem.W.fnOf "is_film" "is_film" (defArgs s_is_film) (defBody s_is_film) (defScope s_is_film) .none kV6 dc6 pm6 an6 cd6 ct6), sl6⟩) (c6 : PySem.W.codeIn K cd6 "is_film" = true) (k6 : PySem.W.keepIn K (.ref f6) = true)
    {t_LARGEST_SIDE : Tok} (n_LARGEST_SIDE : PySem.W.nsIn K mainGlobals "LARGEST_SIDE" = some (some (.int 256 t_LARGEST_SIDE)))
    {t_COLOURS : Tok} (n_COLOURS : PySem.W.nsIn K mainGlobals "COLOURS" = some (some (.int 3 t_COLOURS)))
    {t_MODEL_BYTES : Tok} (n_MODEL_BYTES : PySem.W.nsIn K mainGlobals "MODEL_BYTES" = some (some (.int 768 t_MODEL_BYTES)))
    {t_LARGEST_EXPOSURE : Tok} (n_LARGEST_EXPOSURE : PySem.W.nsIn K mainGlobals "LARGEST_EXPOSURE" = some (some (.int 64 t_LARGEST_EXPOSURE)))
    {t_LARGEST_FILM_NUMBER : Tok} (n_LARGEST_FILM_NUMBER : PySem.W.nsIn K mainGlobals "LARGEST_FILM_NUMBER" = some (some (.int 65535 t_LARGEST_FILM_NUMBER)))
    (z_len : PySem.W.nsIn K mainGlobals "len" = some none)
    (z_max : PySem.W.nsIn K mainGlobals "max" = some none)
    (z_min : PySem.W.nsIn K mainGlobals "min" = some none)
    (z_range : PySem.W.nsIn K mainGlobals "range" = some none)
    (z_zip : PySem.W.nsIn K mainGlobals "zip" = some none) :
    ∃ fd : FuncData, (∀ (s : Shared) (us : List Value), us.length = (["w", "h", "e", "film", "a", "model"] : List Str).length → BindsTo s fd ⟨us, []⟩ ((["w", "h", "e", "film", "a", "model"] : List Str).zip us)) ∧ ∀ base : Heap, K.In base → base.Ns mainGlobals mg → FnOk P w K mg base CX0 3 fa fd ["w", "h", "e", "film", "a", "model"] (spExpose K) := by
  have e := hfa.symm.trans (PySem.W.mg_of X G a1)
  cases e
  have F1 := fun_mk (st := s_expose) l1 c1 k1
  have F2 := fun_mk (st := s_lights) l2 c2 k2
  have b2 := F2.binds (ps := ["a", "model"]) fun _ _ _ _ _ _ us hl => match us, hl with | [_, _], _ => rfl
  have D_lights : Df K mg "lights" s_lights ["a", "model"] := ⟨_, _, F2, PySem.W.mg_of X G a2, b2⟩
  have F3 := fun_mk (st := s_exposed) l3 c3 k3
  have b3 := F3.binds (ps := ["number", "e", "light"]) fun _ _ _ _ _ _ us hl => match us, hl with | [_, _, _], _ => rfl
  have D_exposed : Df K mg "exposed" s_exposed ["number", "e", "light"] := ⟨_, _, F3, PySem.W.mg_of X G a3, b3⟩
  have F4 := fun_mk (st := s_is_side) l4 c4 k4
  have b4 := F4.binds (ps := ["n"]) fun _ _ _ _ _ _ us hl => match us, hl with | [_], _ => rfl
  have D_is_side : Df K mg "is_side" s_is_side ["n"] := ⟨_, _, F4, PySem.W.mg_of X G a4, b4⟩
  have F5 := fun_mk (st := s_are_points) l5 c5 k5
  have b5 := F5.binds (ps := ["a", "w", "h"]) fun _ _ _ _ _ _ us hl => match us, hl with | [_, _, _], _ => rfl
  have D_are_points : Df K mg "are_points" s_are_points ["a", "w", "h"] := ⟨_, _, F5, PySem.W.mg_of X G a5, b5⟩
  have F6 := fun_mk (st := s_is_film) l6 c6 k6
  have b6 := F6.binds (ps := ["film", "w", "h"]) fun _ _ _ _ _ _ us hl => match us, hl with | [_, _, _], _ => rfl
  have D_is_film : Df K mg "is_film" s_is_film ["film", "w", "h"] := ⟨_, _, F6, PySem.W.mg_of X G a6, b6⟩
  have N_LARGEST_SIDE : Cn mg "LARGEST_SIDE" 256 := ⟨_, PySem.W.mg_of X G n_LARGEST_SIDE⟩
  have N_COLOURS : Cn mg "COLOURS" 3 := ⟨_, PySem.W.mg_of X G n_COLOURS⟩
  have N_MODEL_BYTES : Cn mg "MODEL_BYTES" 768 := ⟨_, PySem.W.mg_of X G n_MODEL_BYTES⟩
  have N_LARGEST_EXPOSURE : Cn mg "LARGEST_EXPOSURE" 64 := ⟨_, PySem.W.mg_of X G n_LARGEST_EXPOSURE⟩
  have N_LARGEST_FILM_NUMBER : Cn mg "LARGEST_FILM_NUMBER" 65535 := ⟨_, PySem.W.mg_of X G n_LARGEST_FILM_NUMBER⟩
  have Z_len : mg "len" = none := PySem.W.mg_none_of X G z_len
  have Z_max : mg "max" = none := PySem.W.mg_none_of X G z_max
  have Z_min : mg "min" = none := PySem.W.mg_none_of X G z_min
  have Z_range : mg "range" = none := PySem.W.mg_none_of X G z_range
  have Z_zip : mg "zip" = none := PySem.W.mg_none_of X G z_zip
  exact ⟨_, fun s us hu => match us, hu with | [_, _, _, _, _, _], _ => .of_eq rfl, fun base _ _ => ok_expose F1 D_are_points D_is_side D_is_film D_lights D_exposed N_LARGEST_SIDE N_COLOURS N_MODEL_BYTES N_LARGEST_EXPOSURE N_LARGEST_FILM_NUMBER Z_len Z_max Z_min Z_range Z_zip⟩
end My
open PySem PySem.W PyProof.Rows
set_option maxRecDepth 100000 in
set_option maxHeartbeats 8000000 in
theorem PySem.Challenge.cw_paintsheets_s11_expose_holds : PySem.Challenge.rw_paintsheets_s11_expose.Holds := by
  w_on; k_headS; (case hw => exact ⟨[.int 0, .int 0, .int 0, .list [], .list [], .list []], by decide +kernel, by decide +kernel⟩)
  k_fillS
  refine L2.walk_specK (r := PySem.Challenge.rw_paintsheets_s11_expose) (k := 3) (CX := L2.CX0) (ps := ["w", "h", "e", "film", "a", "model"]) (sp := My.spExpose) (by decide +kernel) rfl rfl ⟨rfl, by decide, by decide⟩ (fun w h Y => PySem.W.kIn_of Y) ?F ?S (fun _ _ _ _ z => z)
  case F =>
    intro w mg fa h Y KX G hmg
    refine' My.all_mk KX G hmg ?a1 ?l1 ?c1 ?k1 ?a2 ?l2 ?c2 ?k2 ?a3 ?l3 ?c3 ?k3 ?a4 ?l4 ?c4 ?k4 ?a5 ?l5 ?c5 ?k5 ?a6 ?l6 ?c6 ?k6 ?n_LARGEST_SIDE ?n_COLOURS ?n_MODEL_BYTES ?n_LARGEST_EXPOSURE ?n_LARGEST_FILM_NUMBER ?z_len ?z_max ?z_min ?z_range ?z_zip
    (case a1 => k_is)
    (case l1 => k_is)
    (case c1 => k_is)
    (case k1 => k_is)
    (case a2 => k_is)
    (case l2 => k_is)
    (case c2 => k_is)
    (case k2 => k_is)
    (case a3 => k_is)
    (case l3 => k_is)
    (case c3 => k_is)
    (case k3 => k_is)
    (case a4 => k_is)
    (case l4 => k_is)
    (case c4 => k_is)
    (case k4 => k_is)
    (case a5 => k_is)
    (case l5 => k_is)
    (case c5 => k_is)
    (case k5 => k_is)
    (case a6 => k_is)
    (case l6 => k_is)
    (case c6 => k_is)
    (case k6 => k_is)
    (case n_LARGEST_SIDE => k_is)
    (case n_COLOURS => k_is)
    (case n_MODEL_BYTES => k_is)
    (case n_LARGEST_EXPOSURE => k_is)
    (case n_LARGEST_FILM_NUMBER => k_is)
    (case z_len => k_is)
    (case z_max => k_is)
    (case z_min => k_is)
    (case z_range => k_is)
    (case z_zip => k_is)
  case S =>
    intro K H xs a hO hwi hask hx
    obtain ⟨v1, v2, v3, v4, v5, v6, u⟩ := a
    cases hx with
    | cons g1 r1 =>
      cases r1 with
      | cons g2 r2 =>
        cases r2 with
        | cons g3 r3 =>
          cases r3 with
          | cons g4 r4 =>
            cases r4 with
            | cons g5 r5 =>
              cases r5 with
              | cons g6 r6 =>
                cases r6
                cases g1
                cases g2
                cases g3
                cases g4 with
                | lst s4 d4 =>
                  have e4 := L2.ints_dw v4 _ d4
                  subst e4
                  cases g5 with
                  | lst s5 d5 =>
                    have e5 := L2.ints_dw v5 _ d5
                    subst e5
                    cases g6 with
                    | lst s6 d6 =>
                      have e6 := L2.ints_dw v6 _ d6
                      subst e6
                      have q : (Codec.inInt 0 18446744073709551615 v1 && (Codec.inInt 0 18446744073709551615 v2 && (Codec.inInt 0 18446744073709551615 v3 && ((Codec.inLen 0 6144 v4 && v4.all (Codec.inInt 0 4294967295)) && ((Codec.inLen 0 6144 v5 && v5.all (Codec.inInt 0 255)) && ((Codec.inLen 0 6144 v6 && v6.all (Codec.inInt 0 255)) && true)))))) = true := hwi
                      have q1 := (Bool.and_eq_true_iff.mp q).1
                      replace q := (Bool.and_eq_true_iff.mp q).2
                      replace q1 := My.inInt_of q1
                      have q2 := (Bool.and_eq_true_iff.mp q).1
                      replace q := (Bool.and_eq_true_iff.mp q).2
                      replace q2 := My.inInt_of q2
                      have q3 := (Bool.and_eq_true_iff.mp q).1
                      replace q := (Bool.and_eq_true_iff.mp q).2
                      replace q3 := My.inInt_of q3
                      have q4 := (Bool.and_eq_true_iff.mp q).1
                      replace q := (Bool.and_eq_true_iff.mp q).2
                      have l4 : v4.length ≤ 6144 := (Codec.inNat_iff.mp (Bool.and_eq_true_iff.mp q4).1).2
                      replace q4 := fun x hxm => My.inInt_of (List.all_eq_true.mp (Bool.and_eq_true_iff.mp q4).2 x hxm)
                      obtain ⟨f4, rfl⟩ := My.exists_nats v4 q4
                      rw [My.nints_length] at l4
                      have q5 := (Bool.and_eq_true_iff.mp q).1
                      replace q := (Bool.and_eq_true_iff.mp q).2
                      have l5 : v5.length ≤ 6144 := (Codec.inNat_iff.mp (Bool.and_eq_true_iff.mp q5).1).2
                      replace q5 := fun x hxm => My.inInt_of (List.all_eq_true.mp (Bool.and_eq_true_iff.mp q5).2 x hxm)
                      obtain ⟨b5, rfl⟩ := My.exists_bytes v5 q5
                      rw [My.bints_length] at l5
                      have q6 := (Bool.and_eq_true_iff.mp q).1
                      replace q := (Bool.and_eq_true_iff.mp q).2
                      have l6 : v6.length ≤ 6144 := (Codec.inNat_iff.mp (Bool.and_eq_true_iff.mp q6).1).2
                      replace q6 := fun x hxm => My.inInt_of (List.all_eq_true.mp (Bool.and_eq_true_iff.mp q6).2 x hxm)
                      obtain ⟨b6, rfl⟩ := My.exists_bytes v6 q6
                      rw [My.bints_length] at l6
                      refine ⟨_, _, _, v1, v2, v3, f4, b5, b6, rfl, s4, s5, s6, l5, q3.1, fun H' p _ hp => ?_⟩
                      have e : PyWqasbp.expose v1 v2 v3 (My.nints f4) (My.bints b5) (My.bints b6) = My.exposeL v1 v2 v3 f4 b5 b6 := My.expose_due q1.1 q2.1 q3.1 f4 b5 b6
                      show L2.Dw K H' (.ref p) (WData.list ((PyWqasbp.expose v1 v2 v3 (My.nints f4) (My.bints b5) (My.bints b6)).map WData.int))
                      rw [e]
                      exact .lst (L2.SqL.of hp) (L2.dw_ints _)
#print axioms PySem.Challenge.cw_paintsheets_s11_expose_holds
