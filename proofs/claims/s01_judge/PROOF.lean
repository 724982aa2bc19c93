import PyProof.Rows.All
import Wide.All
import OpenK.AllK
import Wide.FinOn
import Open.SpecLaws
import KE.OsGo
import KE.OsHead
import KE.KEqDeep
import HandS.ForSpec
import HandS.Iter
import PySem.Challenge.RW_paintsheets_s01_judge
set_option Elab.async false
set_option maxRecDepth 100000
set_option maxHeartbeats 2000000
namespace My
open CeSheet

/-! ### bytes and whole numbers -/
def bints (bs : List UInt8) : List Int := bs.map fun c => (c.toNat : Int)
theorem bints_length (bs : List UInt8) : (bints bs).length = bs.length := by simp [bints]
theorem bints_append (as bs : List UInt8) : bints (as ++ bs) = bints as ++ bints bs := by simp [bints]
theorem text_bints (bs : List UInt8) : Neutral.text (bints bs) = bs := by
  induction bs with
  | nil => rfl
  | cons c r ih =>
    show UInt8.ofNat ((c.toNat : Int)).toNat :: Neutral.text (bints r) = c :: r
    rw [ih, Int.toNat_natCast, UInt8.ofNat_toNat]
theorem bints_text : ∀ (b : List Int), (∀ x ∈ b, 0 ≤ x ∧ x ≤ 255) → bints (Neutral.text b) = b
  | [], _ => rfl
  | x :: r, h => by
    have hx := h x (List.mem_cons_self ..)
    have ih := bints_text r fun y hy => h y (List.mem_cons_of_mem _ hy)
    show (((UInt8.ofNat x.toNat).toNat : Nat) : Int) :: bints (Neutral.text r) = x :: r
    rw [ih]
    congr 1
    rw [UInt8.toNat_ofNat']
    have : x.toNat % 2 ^ 8 = x.toNat := Nat.mod_eq_of_lt (by omega)
    rw [this]
    omega
theorem exists_bytes (b : List Int) (h : ∀ x ∈ b, 0 ≤ x ∧ x ≤ 255) : ∃ bs : List UInt8, b = bints bs := ⟨Neutral.text b, (bints_text b h).symm⟩
theorem drop_two {bs : List UInt8} {p : Nat} (h : p + 1 < bs.length) : ∃ n q, bs[p]? = some n ∧ bs[p + 1]? = some q ∧ bs.drop p = n :: q :: bs.drop (p + 2) := by
  refine ⟨bs[p], bs[p + 1], List.getElem?_eq_getElem (by omega), List.getElem?_eq_getElem h, ?_⟩
  rw [List.drop_eq_getElem_cons (by omega), List.drop_eq_getElem_cons (i := p + 1) h]

/-! ### the first fault -/
def faultOf {α : Type} : Except Fault α → Option Fault
  | .error e => some e
  | .ok _ => none
/-- what a run that is wanted at a place is blamed for -/
def runF (bs : List UInt8) (place left : Nat) (last : Option UInt8) : Option Fault :=
  match bs.drop place with
  | n :: q :: _ => if left < n.toNat + 1 then some (4, place) else if last = some q then some (5, place) else none
  | _ => some (3, bs.length)
theorem runF_two {bs : List UInt8} {place left : Nat} {last : Option UInt8} {n q : UInt8} {r : List UInt8} (h : bs.drop place = n :: q :: r) :
    runF bs place left last = if left < n.toNat + 1 then some (4, place) else if last = some q then some (5, place) else none := by
  unfold runF
  rw [h]
theorem runF_short {bs : List UInt8} {place left : Nat} {last : Option UInt8} (h : bs.length < place + 2) : runF bs place left last = some (3, bs.length) := by
  unfold runF
  have : (bs.drop place).length < 2 := by rw [List.length_drop]; omega
  match e : bs.drop place with
  | [] => rfl
  | [_] => rfl
  | _ :: _ :: _ =>
    rw [e] at this
    simp only [List.length_cons] at this
    omega
/-- behind a row that is being read: k rows more -/
def contF (w k : Nat) : Except Fault (Bytes × Nat × Bytes) → Option Fault
  | .error e => some e
  | .ok x => faultOf (rowsIn w k x.2.1 x.2.2)
theorem rows_succ (w k p : Nat) (b : Bytes) : faultOf (rowsIn w (k + 1) p b) = contF w k (rowIn w none p b) := by
  rw [rowsIn]
  cases e : rowIn w none p b with
  | error z => rfl
  | ok x =>
    show faultOf (match rowsIn w k x.2.1 x.2.2 with | .error e => Except.error e | .ok l => Except.ok (x.1 ++ l)) = faultOf (rowsIn w k x.2.1 x.2.2)
    cases rowsIn w k x.2.1 x.2.2 <;> rfl
theorem contF_zero (w k p : Nat) (last : Option UInt8) (b : Bytes) : contF w k (rowIn 0 last p b) = faultOf (rowsIn w k p b) := by
  rw [rowIn]
  rfl
theorem rowIn_two (left : Nat) (last : Option UInt8) (p : Nat) (n q : UInt8) (r : Bytes) : rowIn (left + 1) last p (n :: q :: r) =
    if left < n.toNat then .error (4, p) else if last = some q then .error (5, p) else match rowIn (left - n.toNat) (some q) (p + 2) r with
      | .ok x => .ok (List.replicate (n.toNat + 1) q ++ x.1, x.2)
      | .error e => .error e := by
  rw [rowIn]
  rfl
theorem contF_step {w k : Nat} {bs : List UInt8} {place left : Nat} {last : Option UInt8} (hp : place ≤ bs.length) :
    (∀ e, runF bs place (left + 1) last = some e → contF w k (rowIn (left + 1) last place (bs.drop place)) = some e) ∧
    (runF bs place (left + 1) last = none → ∃ n q, bs[place]? = some n ∧ bs[place + 1]? = some q ∧ place + 2 ≤ bs.length ∧ n.toNat ≤ left ∧
      contF w k (rowIn (left + 1) last place (bs.drop place)) = contF w k (rowIn (left - n.toNat) (some q) (place + 2) (bs.drop (place + 2)))) := by
  by_cases h2 : place + 1 < bs.length
  · obtain ⟨n, q, hn, hq, hd⟩ := drop_two h2
    rw [runF_two hd, hd, rowIn_two]
    by_cases c1 : left < n.toNat
    · rw [if_pos (by omega), if_pos c1]
      exact ⟨fun e he => he, fun he => by cases he⟩
    · rw [if_neg (by omega), if_neg c1]
      by_cases c2 : last = some q
      · rw [if_pos c2, if_pos c2]
        exact ⟨fun e he => he, fun he => by cases he⟩
      · rw [if_neg c2, if_neg c2]
        refine ⟨fun e he => (by cases he), fun _ => ⟨n, q, hn, hq, by omega, by omega, ?_⟩⟩
        cases rowIn (left - n.toNat) (some q) (place + 2) (bs.drop (place + 2)) with
        | error z => rfl
        | ok x => rfl
  · rw [runF_short (by omega)]
    refine ⟨fun e he => ?_, fun he => by cases he⟩
    rw [← he]
    by_cases h1 : place = bs.length
    · subst h1
      rw [List.drop_length, rowIn]
      rfl
    · have : (bs.drop place).length = 1 := by rw [List.length_drop]; omega
      match e : bs.drop place with
      | [] => rw [e] at this; simp at this
      | _ :: _ :: _ => rw [e] at this; simp at this
      | [z] =>
        rw [rowIn]
        show some (3, place + 1) = some (3, bs.length)
        rw [show place + 1 = bs.length by omega]
def headF (bs : List UInt8) : Option Fault :=
  if bs.length < 8 ∨ bs.take 4 ≠ MARK then some (1, 0) else if num2 bs 4 < 1 ∨ SIDE < num2 bs 4 then some (2, 4) else if num2 bs 6 < 1 ∨ SIDE < num2 bs 6 then some (2, 6) else none
def runsF (bs : List UInt8) (w h : Nat) : Option Fault := faultOf (rowsIn w h 8 (bs.drop 8))
def judgeF (bs : List UInt8) : Option Fault := faultOf (CeSheet.judge bs)
theorem headF_len {bs : List UInt8} (h : headF bs = none) : 8 ≤ bs.length := by
  unfold headF at h
  by_cases c : bs.length < 8 ∨ bs.take 4 ≠ MARK
  · rw [if_pos c] at h; cases h
  · omega
theorem judgeF_eq (bs : List UInt8) : judgeF bs = match headF bs with
    | some e => some e
    | none => runsF bs (num2 bs 4) (num2 bs 6) := by
  unfold judgeF headF CeSheet.judge
  by_cases c1 : bs.length < 8 ∨ bs.take 4 ≠ MARK
  · rw [if_pos c1, if_pos c1]; rfl
  · rw [if_neg c1, if_neg c1]
    by_cases c2 : num2 bs 4 < 1 ∨ SIDE < num2 bs 4
    · rw [if_pos c2, if_pos c2]; rfl
    · rw [if_neg c2, if_neg c2]
      by_cases c3 : num2 bs 6 < 1 ∨ SIDE < num2 bs 6
      · rw [if_pos c3, if_pos c3]; rfl
      · rw [if_neg c3, if_neg c3]
        show _ = faultOf (rowsIn (num2 bs 4) (num2 bs 6) 8 (bs.drop 8))
        cases rowsIn (num2 bs 4) (num2 bs 6) 8 (bs.drop 8) <;> rfl
/-- behind the rows: what is left -/
theorem rows_zero {w p : Nat} {bs : List UInt8} (hp : p ≤ bs.length) : faultOf (rowsIn w 0 p (bs.drop p)) = if p < bs.length then some (6, p) else none := by
  by_cases h : p < bs.length
  · rw [if_pos h, List.drop_eq_getElem_cons h, rowsIn]
    rfl
  · rw [if_neg h, List.drop_eq_nil_of_le (by omega), rowsIn]
    rfl
theorem num2_eq {bs : List UInt8} {i : Nat} {x y : UInt8} (hx : bs[i]? = some x) (hy : bs[i + 1]? = some y) : num2 bs i = x.toNat + 256 * y.toNat := by
  unfold num2
  rw [List.getD_eq_getElem?_getD, List.getD_eq_getElem?_getD, hx, hy]
  rfl

/-! ### what is due of judge and size -/
def judgeL (bs : List UInt8) : List Int := match judgeF bs with
  | some e => [-6, (e.1 : Int), (e.2 : Int)]
  | none => [0]
theorem judge_due {bs : List UInt8} (h : bs.length ≤ 131080) : PyWqasbp.judge (bints bs) = judgeL bs := by
  show Neutral.shown (if CeSheetSpec.LOOKED < (Neutral.text (bints bs)).length then CeSheetSpec.no 2 else (match CeSheet.judge (Neutral.text (bints bs)) with
    | .error e => .refused 6 [e.1, e.2]
    | .ok _ => .nums [0])) = _
  rw [text_bints, if_neg (by show ¬ 131080 < bs.length; omega)]
  unfold judgeL judgeF
  cases CeSheet.judge bs <;> rfl
def sizeL (bs : List UInt8) : List Int := match judgeF bs with
  | some _ => [-6]
  | none => [(num2 bs 4 : Int), (num2 bs 6 : Int)]
theorem judge_ok {bs : List UInt8} {s : Sheet} (h : CeSheet.judge bs = .ok s) : s.wide = num2 bs 4 ∧ s.high = num2 bs 6 ∧ rowsIn (num2 bs 4) (num2 bs 6) 8 (bs.drop 8) = .ok s.paints := by
  unfold CeSheet.judge at h
  split at h
  · cases h
  · split at h
    · cases h
    · split at h
      · cases h
      · split at h
        · cases h
        · rename_i l e
          cases h
          exact ⟨rfl, rfl, e⟩
theorem size_due {bs : List UInt8} (h : bs.length ≤ 131080) : PyWqasbp.size (bints bs) = sizeL bs := by
  show Neutral.shown (if CeSheetSpec.LOOKED < (Neutral.text (bints bs)).length then CeSheetSpec.no 2 else (match CeSheet.judge (Neutral.text (bints bs)) with
    | .error _ => CeSheetSpec.no 6
    | .ok s => .nums [s.wide, s.high])) = _
  rw [text_bints, if_neg (by show ¬ 131080 < bs.length; omega)]
  unfold sizeL judgeF
  cases e : CeSheet.judge bs with
  | error z => rfl
  | ok s =>
    obtain ⟨h1, h2, _⟩ := judge_ok e
    show [(s.wide : Int), (s.high : Int)] = _
    rw [h1, h2] <;> rfl
end My

namespace My
open PySem PySem.Spec PyProof.Rows L2
/-! ### the text by places -/
def topS (i : Nat) : Stmt := PySem.Challenge.pw_paintsheets_s01_judge.main.body.getD i (.Pass ⟨0, 0, 0, 0⟩)
abbrev s_judge : Stmt := topS 7
abbrev s_first_fault : Stmt := topS 8
abbrev s_head_fault : Stmt := topS 9
abbrev s_runs_fault : Stmt := topS 10
abbrev s_run_fault : Stmt := topS 11
abbrev s_run_length : Stmt := topS 12
abbrev s_run_paint : Stmt := topS 13
abbrev s_two_bytes : Stmt := topS 14
abbrev s_is_side : Stmt := topS 15
end My
/-! ### the layer: defs by name, constants, lists of bytes -/
namespace My
open PySem PySem.Spec PyProof.Rows L2
open PySem.W (Codec)
/-- a def of the text as it stands behind the top -/
def Df (K : PySem.W.Frag) (mg : Str → Option Value) (x : Str) (st : Stmt) (ps : List Str) : Prop :=
  ∃ (f : Addr) (fd : FuncData), Fun K x x st f fd ∧ mg x = some (.ref f) ∧ Binds K fd ps []
/-- a def that keeps its promise -/
def Ok (P : Program) (w : World) (K : PySem.W.Frag) (mg : Str → Option Value) (base : Heap) (k : Nat) (x : Str) (ps : List Str) (sp : Sp) : Prop :=
  ∃ (f : Addr) (fd : FuncData), FnOk P w K mg base CX0 k f fd ps sp ∧ mg x = some (.ref f) ∧ PySem.W.keepIn K (.ref f) = true ∧ Binds K fd ps []
theorem pe_ok {X : Cx} {k : Nat} {x : Str} {ps : List Str} {sp : Sp} {e : Expr} {es : List Expr} {t : TA} {p pos : Pos} (c : Ok X.prog X.w X.K X.mg X.base k x ps sp) (hr : Room k X.A) (hg : Gl X x) (ha : PA X (e :: es) t)
    (hdb : (x == ("__debug__" : Str)) = false := by decide) (he : starEach (e :: es) X.env = (false, eval e X.env) :: starEach es X.env := by rfl) (hpl : (backTo pos (starEach es X.env)).any (·.1) = false := by rfl) :
    PE X (.Call (.Name x p) (e :: es) [] pos) (tCall sp [] E0 t) := by
  obtain ⟨f, fd, F, hm, hk, hb⟩ := c
  exact pe_call F hr hg hm hk hb .nil pass0 ha hdb he hpl
/-- a whole number that the top names -/
def Cn (mg : Str → Option Value) (x : Str) (n : Int) : Prop := ∃ t, mg x = some (.int n t)
theorem pe_cn {X : Cx} {x : Str} {n : Int} {pos : Pos} (c : Cn X.mg x n) (hg : Gl X x) (hdb : (x == ("__debug__" : Str)) = false := by decide) : PE X (.Name x pos) (tC (.int n)) := by
  obtain ⟨t, h⟩ := c
  exact pe_glob hg h ⟨t, rfl⟩ (hd := hdb)
def vb (bs : List UInt8) : List V := (bints bs).map V.int
theorem vb_length (bs : List UInt8) : (vb bs).length = bs.length := by unfold vb; rw [List.length_map, bints_length]
theorem vb_get {bs : List UInt8} {i : Nat} {c : UInt8} (h : bs[i]? = some c) : (vb bs)[i]? = some (.int ((c.toNat : Nat) : Int)) := by
  unfold vb bints
  rw [List.getElem?_map, List.getElem?_map, h]
  rfl
theorem vb_at {bs : List UInt8} {i : Nat} {c : UInt8} (h : bs[i]? = some c) : atI (vb bs) ((i : Nat) : Int) = some (.int ((c.toNat : Nat) : Int)) := atI_nat (vb_get h)
theorem vb_at1 {bs : List UInt8} {i : Nat} {c : UInt8} (h : bs[i + 1]? = some c) : atI (vb bs) (((i : Nat) : Int) + 1) = some (.int ((c.toNat : Nat) : Int)) := by
  rw [show ((i : Nat) : Int) + 1 = ((i + 1 : Nat) : Int) by omega]
  exact vb_at h
theorem vb_append (as bs : List UInt8) : vb (as ++ bs) = vb as ++ vb bs := by unfold vb; rw [bints_append, List.map_append]
theorem vb_take (bs : List UInt8) (n : Nat) : (vb bs).take n = vb (bs.take n) := by unfold vb bints; rw [List.map_take, List.map_take]
theorem vb_drop (bs : List UInt8) (n : Nat) : (vb bs).drop n = vb (bs.drop n) := by unfold vb bints; rw [List.map_drop, List.map_drop]
theorem vb_step {bs : List UInt8} {i : Nat} {c : UInt8} (h : bs[i]? = some c) : vb (bs.take (i + 1)) = vb (bs.take i) ++ [.int ((c.toNat : Nat) : Int)] := by
  rw [List.take_add_one, h, vb_append]
  rfl
theorem byte0 (x : UInt8) : decide (V.int ((x.toNat : Nat) : Int) = V.int 0) = decide (x = 0) := by
  refine decide_eq_decide.mpr ⟨fun z => ?_, fun z => ?_⟩
  · have e : ((x.toNat : Nat) : Int) = 0 := V.int.inj z
    exact UInt8.toNat_inj.mp (by show x.toNat = 0; omega)
  · rw [z]
    rfl
theorem same_new {H : Hp} {p : Addr} {o : HO} (h : H p = none) : Same H (upd H p o) := fun b u e => by
  rw [upd_ne (ne_of_none e h)]
  exact e
theorem dp_ints {K : PySem.W.Frag} {H : Hp} : ∀ ns : List Int, DpAll K H (ns.map V.int) (ns.map PyData.int)
  | [] => .nil
  | n :: r => .cons (.int n) (dp_ints r)
theorem eqv_ints (ns ms : List Int) : PyData.eqv (.list (ns.map PyData.int)) (.list (ms.map PyData.int)) = decide (ns = ms) := by
  rw [PyData.eqv]
  exact PySem.W.ked_eqvAll ns ms
theorem bints_inj {as bs : List UInt8} (h : bints as = bints bs) : as = bs := by
  have := congrArg Neutral.text h
  rwa [text_bints, text_bints] at this
theorem inInt_of {lo hi k : Int} (h : Codec.inInt lo hi k = true) : lo ≤ k ∧ k ≤ hi := by
  unfold Codec.inInt at h
  rw [Bool.and_eq_true] at h
  exact ⟨of_decide_eq_true h.1, of_decide_eq_true h.2⟩
end My

/-! ### is_side: a width or a height -/
namespace My
open PySem PySem.Spec PyProof.Rows L2
open PySem.W (Codec)
def spSide : Sp := fun vs H Q _ => ∃ n : Int, vs = [.int n] ∧ Q (.bl (decide (1 ≤ n ∧ n ≤ 256))) H
section
variable {P : Program} {w : World} {K : PySem.W.Frag} {mg : Str → Option Value} {base : Heap}
theorem scSide : FnScope ["n"] ["n"] (defScope s_is_side) := ⟨rfl, rfl, rfl, by decide +kernel, rfl, by decide +kernel, by decide +kernel⟩
theorem ok_is_side (D : Df K mg "is_side" s_is_side ["n"]) (cL : Cn mg "LARGEST_SIDE" 256) : Ok P w K mg base 1 "is_side" ["n"] spSide := by
  obtain ⟨f, fd, F, hm, hb⟩ := D
  refine ⟨f, fd, F.ok scSide (fun vs H Q E h => ?_) (fun cdv A outer s H vs Q E hr h => ?_), hm, F.kp, hb⟩
  · obtain ⟨n, rfl, _⟩ := h
    rfl
  · obtain ⟨n, rfl, k⟩ := h
    refine ⟨_, pss_one (ps_ret (pe_chain op_le op_le pe_int (pv 0) (pe_cn cL rfl))), ?_⟩
    refine ⟨_, rfl, _, _, rfl, rfl, _, rfl, ite2 (fun h1 => ⟨_, _, rfl, rfl, ?_⟩) (fun h1 => ?_)⟩
    · have e : decide (1 ≤ n ∧ n ≤ 256) = decide (n ≤ 256) := decide_eq_decide.mpr ⟨fun z => z.2, fun z => ⟨of_decide_eq_true h1, z⟩⟩
      rw [e] at k
      exact k
    · have e : decide (1 ≤ n ∧ n ≤ 256) = false := decide_eq_false fun z => h1 (decide_eq_true z.1)
      rw [e] at k
      exact k
end
end My

/-! ### the promises and bodies: from the bytes to their first fault -/
namespace My
open PySem PySem.Spec PyProof.Rows L2
open PySem.W (Codec)
structure TxtJ (K : PySem.W.Frag) (mg : Str → Option Value) : Prop where
  len : mg "len" = none
  range : mg "range" = none
  list : mg "list" = none
  cW : Cn mg "W_PLACE" 4
  cH : Cn mg "H_PLACE" 6
  cR : Cn mg "RUNS_PLACE" 8
  cL : Cn mg "LARGEST_SIDE" 256
  cM : Cn mg "MOST_BYTES" 131080
  mark : ∃ a, mg "MARK" = some (.ref a) ∧ ∀ H, SqT K H a ([67, 69, 76, 49].map V.int)
/-- how a fault is handed back -/
def Gives (H : Hp) (Q : VK) : Option CeSheet.Fault → Prop
  | none => ∀ H', Same H H' → Q .non H'
  | some e => ∀ H' t, Same H H' → H' t = some (.tup [.int ((e.1 : Nat) : Int), .int ((e.2 : Nat) : Int)]) → Q (.ref t) H'
theorem Gives.no {H : Hp} {Q : VK} {o : Option CeSheet.Fault} (k : Gives H Q o) (e : o = none) {H' : Hp} (h : Same H H') : Q .non H' := by
  subst e
  exact k H' h
theorem Gives.yes {H : Hp} {Q : VK} {o : Option CeSheet.Fault} {e : CeSheet.Fault} (k : Gives H Q o) (he : o = some e) {H' : Hp} {t : Addr} (h : Same H H') (ht : H' t = some (.tup [.int ((e.1 : Nat) : Int), .int ((e.2 : Nat) : Int)])) : Q (.ref t) H' := by
  subst he
  exact k H' t h ht
theorem Gives.new {H : Hp} {Q : VK} {o : Option CeSheet.Fault} {e : CeSheet.Fault} (k : Gives H Q o) (he : o = some e) {H' : Hp} {t : Addr} (h : Same H H') (ht : H' t = none) : Q (.ref t) (upd H' t (.tup [.int ((e.1 : Nat) : Int), .int ((e.2 : Nat) : Int)])) :=
  k.yes he (h.trans (same_new ht)) upd_same
def lastV : Option UInt8 → V
  | none => .non
  | some q => .int ((q.toNat : Nat) : Int)
theorem lastV_eq (q : UInt8) (last : Option UInt8) : decide (V.int ((q.toNat : Nat) : Int) = lastV last) = decide (last = some q) := by
  cases last with
  | none => rw [decide_eq_false (by intro z; cases z), decide_eq_false (by intro z; cases z)]
  | some r =>
    refine decide_eq_decide.mpr ⟨fun z => ?_, fun z => ?_⟩
    · have e : ((q.toNat : Nat) : Int) = ((r.toNat : Nat) : Int) := V.int.inj z
      have : q.toNat = r.toNat := by omega
      rw [UInt8.toNat_inj.mp this]
    · cases z
      rfl
theorem lastV_scal (n : Int) (last : Option UInt8) : scal (.int n) (lastV last) = true := by cases last <;> rfl
def spRunLength (K : PySem.W.Frag) : Sp := fun vs H Q _ => ∃ (a : Addr) (bs : List UInt8) (p : Nat) (n : UInt8), vs = [.ref a, .int ((p : Nat) : Int)] ∧ SqL K H a (vb bs) ∧ bs[p]? = some n ∧ Q (.int (((n.toNat : Nat) : Int) + 1)) H
def spRunPaint (K : PySem.W.Frag) : Sp := fun vs H Q _ => ∃ (a : Addr) (bs : List UInt8) (p : Nat) (q : UInt8), vs = [.ref a, .int ((p : Nat) : Int)] ∧ SqL K H a (vb bs) ∧ bs[p + 1]? = some q ∧ Q (.int ((q.toNat : Nat) : Int)) H
def spTwo (K : PySem.W.Frag) : Sp := fun vs H Q _ => ∃ (a : Addr) (bs : List UInt8) (p : Nat), vs = [.ref a, .int ((p : Nat) : Int)] ∧ SqL K H a (vb bs) ∧ p + 1 < bs.length ∧ Q (.int ((CeSheet.num2 bs p : Nat) : Int)) H
def spHead (K : PySem.W.Frag) : Sp := fun vs H Q _ => ∃ (a : Addr) (bs : List UInt8), vs = [.ref a] ∧ SqL K H a (vb bs) ∧ Gives H Q (headF bs)
def spRun (K : PySem.W.Frag) : Sp := fun vs H Q _ => ∃ (a : Addr) (bs : List UInt8) (p l : Nat) (last : Option UInt8), vs = [.ref a, .int ((p : Nat) : Int), .int ((l : Nat) : Int), lastV last] ∧ SqL K H a (vb bs) ∧ p ≤ bs.length ∧ Gives H Q (runF bs p l last)
def spRuns (K : PySem.W.Frag) : Sp := fun vs H Q _ => ∃ (a : Addr) (bs : List UInt8) (wd h : Nat), vs = [.ref a, .int ((wd : Nat) : Int), .int ((h : Nat) : Int)] ∧ SqL K H a (vb bs) ∧ 8 ≤ bs.length ∧ h ≤ 256 ∧ Gives H Q (runsF bs wd h)
def spFirst (K : PySem.W.Frag) : Sp := fun vs H Q _ => ∃ (a : Addr) (bs : List UInt8), vs = [.ref a] ∧ SqL K H a (vb bs) ∧ Gives H Q (judgeF bs)
def spJudge (K : PySem.W.Frag) : Sp := fun vs H Q _ => ∃ (a : Addr) (bs : List UInt8), vs = [.ref a] ∧ SqL K H a (vb bs) ∧ bs.length ≤ 131080 ∧ ∀ H' p, Same H H' → H' p = some (.lst ((judgeL bs).map V.int)) → Q (.ref p) H'
section
variable {P : Program} {w : World} {K : PySem.W.Frag} {mg : Str → Option Value} {base : Heap}
theorem scRunLength : FnScope ["b", "place"] ["b", "place"] (defScope s_run_length) := ⟨rfl, rfl, rfl, by decide +kernel, rfl, by decide +kernel, by decide +kernel⟩
theorem ok_run_length (D : Df K mg "run_length" s_run_length ["b", "place"]) : Ok P w K mg base 1 "run_length" ["b", "place"] (spRunLength K) := by
  obtain ⟨f, fd, F, hm, hb⟩ := D
  refine ⟨f, fd, F.ok scRunLength (fun vs H Q E h => ?_) (fun cdv A outer s H vs Q E hr h => ?_), hm, F.kp, hb⟩
  · obtain ⟨a, bs, p, n, rfl, _⟩ := h
    rfl
  · obtain ⟨a, bs, p, n, rfl, hS, hn, k⟩ := h
    refine ⟨_, pss_one (ps_ret (pe_op op_add (pe_ix ix_list (pv 0) (pv 1) (fun _ _ => rfl)) pe_int)), ?_⟩
    exact ⟨_, rfl, _, rfl, a, _, _, _, rfl, rfl, hS, vb_at hn, _, _, rfl, rfl, k⟩
theorem scRunPaint : FnScope ["b", "place"] ["b", "place"] (defScope s_run_paint) := ⟨rfl, rfl, rfl, by decide +kernel, rfl, by decide +kernel, by decide +kernel⟩
theorem ok_run_paint (D : Df K mg "run_paint" s_run_paint ["b", "place"]) : Ok P w K mg base 1 "run_paint" ["b", "place"] (spRunPaint K) := by
  obtain ⟨f, fd, F, hm, hb⟩ := D
  refine ⟨f, fd, F.ok scRunPaint (fun vs H Q E h => ?_) (fun cdv A outer s H vs Q E hr h => ?_), hm, F.kp, hb⟩
  · obtain ⟨a, bs, p, n, rfl, _⟩ := h
    rfl
  · obtain ⟨a, bs, p, n, rfl, hS, hn, k⟩ := h
    refine ⟨_, pss_one (ps_ret (pe_ix ix_list (pv 0) (pe_op op_add (pv 1) pe_int) (fun _ _ => rfl))), ?_⟩
    exact ⟨_, rfl, _, rfl, _, _, rfl, rfl, a, _, _, _, rfl, rfl, hS, vb_at1 hn, k⟩
theorem scTwo : FnScope ["b", "place"] ["b", "place"] (defScope s_two_bytes) := ⟨rfl, rfl, rfl, by decide +kernel, rfl, by decide +kernel, by decide +kernel⟩
theorem ok_two_bytes (D : Df K mg "two_bytes" s_two_bytes ["b", "place"]) : Ok P w K mg base 1 "two_bytes" ["b", "place"] (spTwo K) := by
  obtain ⟨f, fd, F, hm, hb⟩ := D
  refine ⟨f, fd, F.ok scTwo (fun vs H Q E h => ?_) (fun cdv A outer s H vs Q E hr h => ?_), hm, F.kp, hb⟩
  · obtain ⟨a, bs, p, rfl, _⟩ := h
    rfl
  · obtain ⟨a, bs, p, rfl, hS, hp, k⟩ := h
    obtain ⟨x, y, hx, hy, _⟩ := drop_two hp
    refine ⟨_, pss_one (ps_ret (pe_op op_add (pe_ix ix_list (pv 0) (pv 1) (fun _ _ => rfl)) (pe_op op_mul pe_int (pe_ix ix_list (pv 0) (pe_op op_add (pv 1) pe_int) (fun _ _ => rfl))))), ?_⟩
    have e : ((CeSheet.num2 bs p : Nat) : Int) = ((x.toNat : Nat) : Int) + 256 * ((y.toNat : Nat) : Int) := by
      rw [num2_eq hx hy]
      omega
    rw [e] at k
    exact ⟨_, rfl, _, rfl, a, _, _, _, rfl, rfl, hS, vb_at hx, _, rfl, _, rfl, _, _, rfl, rfl, a, _, _, _, rfl, rfl, hS, vb_at1 hy, _, _, rfl, rfl, .inl ⟨by decide, by decide⟩, _, _, rfl, rfl, k⟩
theorem side_num (n : Nat) : (¬ (n < 1 ∨ CeSheet.SIDE < n)) ↔ (1 ≤ ((n : Nat) : Int) ∧ ((n : Nat) : Int) ≤ 256) := by
  show (¬ (n < 1 ∨ 256 < n)) ↔ _
  omega
theorem cut4 {bs : List UInt8} (h : 8 ≤ bs.length) : cutV (vb bs) none (some (4 : Int)) = vb (bs.take 4) := by
  show ((vb bs).drop 0).take (HT.sIx (vb bs).length (vb bs).length (some ((4 : Nat) : Int)) - 0) = _
  rw [HT.sIx_nat, vb_length, List.drop_zero, Nat.sub_zero, Nat.min_eq_left (by omega), vb_take]
theorem scHead : FnScope ["b"] ["b"] (defScope s_head_fault) := ⟨rfl, rfl, rfl, by decide +kernel, rfl, by decide +kernel, by decide +kernel⟩
theorem ok_head_fault (D : Df K mg "head_fault" s_head_fault ["b"]) (T : TxtJ K mg) (D1 : Df K mg "two_bytes" s_two_bytes ["b", "place"]) (D2 : Df K mg "is_side" s_is_side ["n"]) : Ok P w K mg base 2 "head_fault" ["b"] (spHead K) := by
  have C1 : Ok P w K mg base 1 "two_bytes" ["b", "place"] (spTwo K) := ok_two_bytes D1
  have C2 : Ok P w K mg base 1 "is_side" ["n"] spSide := ok_is_side D2 T.cL
  obtain ⟨f, fd, F, hm, hb⟩ := D
  obtain ⟨aM, mM, sM⟩ := T.mark
  refine ⟨f, fd, F.ok scHead (fun vs H Q E h => ?_) (fun cdv A outer s H vs Q E hr h => ?_), hm, F.kp, hb⟩
  · obtain ⟨a, bs, rfl, _⟩ := h
    rfl
  · obtain ⟨a, bs, rfl, hS, k⟩ := h
    refine ⟨_, pss_cons (ps_if (PW.pt (pw_or (pt_cmpR op_lt (pe_callB call_len_seq (by rfl) T.len PySem.boot_len (pa_cons (pv 0) pa_nil)) (pe_cn T.cR rfl) (nomark _))
          (pw_or1 (pt_cmpR (op_neD hr.units) (pe_slice sl_list (pv 0) po_none (po_some (pe_callB call_len_seq (by rfl) T.len PySem.boot_len (pa_cons (pe_glob (v := .ref aM) rfl mM rfl) pa_nil))))
            (pe_callTy call_list_of (by rfl) T.list (by decide +kernel) (pa_cons (pe_glob (v := .ref aM) rfl mM rfl) pa_nil)) (nomark _)))))
          (pss_one (ps_ret (pe_tup (pa_cons pe_int (pa_cons pe_int pa_nil))))) pss_nil)
      (pss_cons (ps_if (pt_not (pt_val (pe_ok C2 hr rfl (pa_cons (pe_ok C1 hr rfl (pa_cons (pv 0) (pa_cons (pe_cn T.cW rfl) pa_nil))) pa_nil)))) (pss_one (ps_ret (pe_tup (pa_cons pe_int (pa_cons (pe_cn T.cW rfl) pa_nil))))) pss_nil)
      (pss_cons (ps_if (pt_not (pt_val (pe_ok C2 hr rfl (pa_cons (pe_ok C1 hr rfl (pa_cons (pv 0) (pa_cons (pe_cn T.cH rfl) pa_nil))) pa_nil)))) (pss_one (ps_ret (pe_tup (pa_cons pe_int (pa_cons (pe_cn T.cH rfl) pa_nil))))) pss_nil)
      (pss_one (ps_ret pe_non)))), ?_⟩
    refine ⟨_, rfl, a, _, rfl, .inl hS, _, _, rfl, rfl, _, rfl, ?_⟩
    rw [vb_length]
    -- what a mark that is another, or too few bytes, gives
    have bad : bs.length < 8 ∨ bs.take 4 ≠ CeSheet.MARK → headF bs = some (1, 0) := fun c => if_pos c
    refine ite2 (fun c => ?_) (fun c => ?_)
    · have c8 : bs.length < 8 := by
        have := of_decide_eq_true c
        omega
      refine iteT ⟨by decide, fun t ht => ?_⟩
      exact k.new (bad (.inl c8)) (Same.refl H) ht
    · have c8 : 8 ≤ bs.length := by
        have : ¬ ((bs.length : Nat) : Int) < 8 := fun z => c (decide_eq_true z)
        omega
      refine ⟨_, rfl, aM, _, rfl, .inr (sM _), _, rfl, a, _, rfl, hS, fun p1 n1 => ?_⟩
      refine ⟨aM, _, rfl, .inr (sM _), fun p2 n2 => ?_⟩
      have s1 : Same H (upd H p1 (.lst (cutV (vb bs) none (some (4 : Int))))) := same_new n1
      have s2 : Same H (upd (upd H p1 (.lst (cutV (vb bs) none (some (4 : Int))))) p2 (.lst ([67, 69, 76, 49].map V.int))) := s1.trans (same_new n2)
      have n12 : p1 ≠ p2 := ne_of_none upd_same n2
      refine ⟨.list ((bints (bs.take 4)).map PyData.int), .list (([67, 69, 76, 49] : List Int).map PyData.int), .lst (SqL.of (by rw [upd_ne n12, upd_same]; show some (HO.lst (cutV (vb bs) none (some (4 : Int)))) = _; rw [cut4 c8]; rfl)) (dp_ints _), .lst (SqL.of upd_same) (dp_ints _),
        PySem.W.ke_shaped_ints _, PySem.W.ke_shaped_ints _, _, rfl, ?_⟩
      rw [eqv_ints]
      refine ite2 (fun c4 => ?_) (fun c4 => ?_)
      · have c4' : bs.take 4 ≠ CeSheet.MARK := fun z => by
          rw [z] at c4
          exact absurd c4 (by decide)
        refine ⟨by decide, fun t ht => ?_⟩
        exact k.new (bad (.inr c4')) s2 ht
      · have c4' : bs.take 4 = CeSheet.MARK := by
          by_cases z : bints (bs.take 4) = ([67, 69, 76, 49] : List Int)
          · exact bints_inj z
          · exact absurd (by rw [decide_eq_false z]; rfl) c4
        have good : ¬ (bs.length < 8 ∨ bs.take 4 ≠ CeSheet.MARK) := fun z => z.elim (fun z => by omega) (fun z => z c4')
        have hd : headF bs = if CeSheet.num2 bs 4 < 1 ∨ CeSheet.SIDE < CeSheet.num2 bs 4 then some (2, 4) else if CeSheet.num2 bs 6 < 1 ∨ CeSheet.SIDE < CeSheet.num2 bs 6 then some (2, 6) else none := if_neg good
        refine ⟨_, rfl, a, bs, 4, rfl, s2.seq hS, by omega, _, rfl, _, rfl, ?_⟩
        by_cases cW : CeSheet.num2 bs 4 < 1 ∨ CeSheet.SIDE < CeSheet.num2 bs 4
        · rw [if_pos cW] at hd
          rw [decide_eq_false (fun z => (side_num _).mpr z cW)]
          exact iteT ⟨by decide, fun t ht => k.new hd s2 ht⟩
        · rw [if_neg cW] at hd
          rw [decide_eq_true ((side_num _).mp cW)]
          refine iteF ⟨_, rfl, a, bs, 6, rfl, s2.seq hS, by omega, _, rfl, _, rfl, ?_⟩
          by_cases cH : CeSheet.num2 bs 6 < 1 ∨ CeSheet.SIDE < CeSheet.num2 bs 6
          · rw [if_pos cH] at hd
            rw [decide_eq_false (fun z => (side_num _).mpr z cH)]
            exact iteT ⟨by decide, fun t ht => k.new hd s2 ht⟩
          · rw [if_neg cH] at hd
            rw [decide_eq_true ((side_num _).mp cH)]
            exact iteF (k.no hd s2)
theorem scRun : FnScope ["b", "place", "left", "paint_before"] ["b", "place", "left", "paint_before"] (defScope s_run_fault) := ⟨rfl, rfl, rfl, by decide +kernel, rfl, by decide +kernel, by decide +kernel⟩
theorem ok_run_fault (D : Df K mg "run_fault" s_run_fault ["b", "place", "left", "paint_before"]) (T : TxtJ K mg) (D1 : Df K mg "run_length" s_run_length ["b", "place"]) (D2 : Df K mg "run_paint" s_run_paint ["b", "place"]) :
    Ok P w K mg base 2 "run_fault" ["b", "place", "left", "paint_before"] (spRun K) := by
  have C1 : Ok P w K mg base 1 "run_length" ["b", "place"] (spRunLength K) := ok_run_length D1
  have C2 : Ok P w K mg base 1 "run_paint" ["b", "place"] (spRunPaint K) := ok_run_paint D2
  obtain ⟨f, fd, F, hm, hb⟩ := D
  refine ⟨f, fd, F.ok scRun (fun vs H Q E h => ?_) (fun cdv A outer s H vs Q E hr h => ?_), hm, F.kp, hb⟩
  · obtain ⟨a, bs, p, l, last, rfl, _⟩ := h
    rfl
  · obtain ⟨a, bs, p, l, last, rfl, hS, hp, k⟩ := h
    have sH := Same.refl H
    refine ⟨_, pss_cons (ps_if (pt_cmpR op_lt (pe_op op_sub (pe_callB call_len_seq (by rfl) T.len PySem.boot_len (pa_cons (pv 0) pa_nil)) (pv 1)) pe_int (nomark _))
        (pss_one (ps_ret (pe_tup (pa_cons pe_int (pa_cons (pe_callB call_len_seq (by rfl) T.len PySem.boot_len (pa_cons (pv 0) pa_nil)) pa_nil))))) pss_nil)
      (pss_cons (ps_if (pt_cmpR op_gt (pe_ok C1 hr rfl (pa_cons (pv 0) (pa_cons (pv 1) pa_nil))) (pv 2) (nomark _)) (pss_one (ps_ret (pe_tup (pa_cons pe_int (pa_cons (pv 1) pa_nil))))) pss_nil)
      (pss_cons (ps_if (pt_cmpR op_eq (pe_ok C2 hr rfl (pa_cons (pv 0) (pa_cons (pv 1) pa_nil))) (pv 3) (nomark _)) (pss_one (ps_ret (pe_tup (pa_cons pe_int (pa_cons (pv 1) pa_nil))))) pss_nil)
      (pss_one (ps_ret pe_non)))), ?_⟩
    refine ⟨_, rfl, a, _, rfl, .inl hS, _, rfl, _, _, rfl, rfl, _, _, rfl, rfl, _, rfl, ?_⟩
    rw [vb_length]
    refine ite2 (fun c => ?_) (fun c => ?_)
    · have c2 : bs.length < p + 2 := by
        have := of_decide_eq_true c
        omega
      refine ⟨_, rfl, a, _, rfl, .inl hS, (by show 2 ≤ sizeLine; decide), fun t ht => ?_⟩
      rw [vb_length]
      exact k.new (runF_short c2) sH ht
    · have c2 : p + 1 < bs.length := by
        have : ¬ (((bs.length : Nat) : Int) - ((p : Nat) : Int) < 2) := fun z => c (decide_eq_true z)
        omega
      obtain ⟨n, q, hn, hq, hd⟩ := drop_two c2
      have hrun := runF_two (left := l) (last := last) hd
      refine ⟨_, rfl, _, rfl, a, bs, p, n, rfl, hS, hn, _, rfl, _, _, rfl, rfl, _, rfl, ?_⟩
      refine ite2 (fun c => ?_) (fun c => ?_)
      · have c1 : l < n.toNat + 1 := by
          have := of_decide_eq_true c
          omega
        rw [if_pos c1] at hrun
        exact ⟨_, rfl, (by show 2 ≤ sizeLine; decide), fun t ht => k.new hrun sH ht⟩
      · have c1 : ¬ l < n.toNat + 1 := fun z => c (decide_eq_true (by omega))
        rw [if_neg c1] at hrun
        refine ⟨_, rfl, _, rfl, a, bs, p, q, rfl, hS, hq, _, rfl, lastV_scal _ _, _, rfl, ?_⟩
        rw [lastV_eq]
        refine ite2 (fun c => ?_) (fun c => ?_)
        · rw [if_pos (of_decide_eq_true c)] at hrun
          exact ⟨_, rfl, (by show 2 ≤ sizeLine; decide), fun t ht => k.new hrun sH ht⟩
        · rw [if_neg (fun z => c (decide_eq_true z))] at hrun
          exact k.no hrun sH
theorem notNone_ref (t : Addr) : (!decide (V.ref t = V.non)) = true := by
  rw [decide_eq_false (by intro z; cases z)]
  rfl
theorem notNone_non : (!decide (V.non = V.non)) = false := by
  rw [decide_eq_true rfl]
  rfl
/-- how far the left counts down -/
def leftOf (σ : L2.St) : Nat := match σ[5]? with
  | some (some (L2.V.int l)) => l.toNat
  | _ => 0
theorem scRuns : FnScope ["b", "w", "h", "place", "y", "left", "paint_before", "fault"] ["b", "w", "h"] (defScope s_runs_fault) := ⟨rfl, rfl, rfl, by decide +kernel, rfl, by decide +kernel, by decide +kernel⟩
theorem ok_runs_fault (D : Df K mg "runs_fault" s_runs_fault ["b", "w", "h"]) (T : TxtJ K mg) (D0 : Df K mg "run_fault" s_run_fault ["b", "place", "left", "paint_before"]) (D1 : Df K mg "run_length" s_run_length ["b", "place"]) (D2 : Df K mg "run_paint" s_run_paint ["b", "place"]) :
    Ok P w K mg base 3 "runs_fault" ["b", "w", "h"] (spRuns K) := by
  have C0 : Ok P w K mg base 2 "run_fault" ["b", "place", "left", "paint_before"] (spRun K) := ok_run_fault D0 T D1 D2
  have C1 : Ok P w K mg base 1 "run_length" ["b", "place"] (spRunLength K) := ok_run_length D1
  have C2 : Ok P w K mg base 1 "run_paint" ["b", "place"] (spRunPaint K) := ok_run_paint D2
  obtain ⟨f, fd, F, hm, hb⟩ := D
  refine ⟨f, fd, F.ok scRuns (fun vs H Q E h => ?_) (fun cdv A outer s H vs Q E hr h => ?_), hm, F.kp, hb⟩
  · obtain ⟨a, bs, wd, hh, rfl, _⟩ := h
    rfl
  · obtain ⟨a, bs, wd, hh, rfl, hS, h8, h256, k⟩ := h
    have hr1 : Room 1 _ := hr.mono (by decide)
    refine ⟨_, pss_cons (ps_set (i := 3) scRuns.nd rfl (Or.inl rfl) (pe_cn T.cR rfl))
      (pss_cons (ps_for PassesOwn.never rfl (pi_range1 rfl T.range (pa_cons (pv 2) pa_nil)) (pg_name (i := 4) scRuns.nd rfl (Or.inl rfl))
        (pss_cons (ps_set (i := 5) scRuns.nd rfl (Or.inl rfl) (pv 1))
        (pss_cons (ps_set (i := 6) scRuns.nd rfl (Or.inl rfl) pe_non)
        (pss_one (ps_while PassesOwn.never (pt_cmpR op_gt (pv 5) pe_int (nomark _))
          (pss_cons (ps_set (i := 7) scRuns.nd rfl (Or.inl rfl) (pe_ok C0 hr rfl (pa_cons (pv 0) (pa_cons (pv 3) (pa_cons (pv 5) (pa_cons (pv 6) pa_nil))))))
          (pss_cons (ps_if (pt_cmpR op_notN (pv 7) pe_non (nomark _)) (pss_one (ps_ret (pv 7))) pss_nil)
          (pss_cons (ps_set (i := 5) scRuns.nd rfl (Or.inl rfl) (pe_op op_sub (pv 5) (pe_ok C1 hr1 rfl (pa_cons (pv 0) (pa_cons (pv 3) pa_nil)))))
          (pss_cons (ps_set (i := 6) scRuns.nd rfl (Or.inl rfl) (pe_ok C2 hr1 rfl (pa_cons (pv 0) (pa_cons (pv 3) pa_nil))))
          (pss_one (ps_set (i := 3) scRuns.nd rfl (Or.inl rfl) (pe_op op_add (pv 3) pe_int))))))))))))
      (pss_cons (ps_if (pt_cmpR op_lt (pv 3) (pe_callB call_len_seq (by rfl) T.len PySem.boot_len (pa_cons (pv 0) pa_nil)) (nomark _)) (pss_one (ps_ret (pe_tup (pa_cons pe_int (pa_cons (pv 3) pa_nil))))) pss_nil)
      (pss_one (ps_ret pe_non)))), ?_⟩
    refine ⟨_, rfl, _, rfl, by omega, by omega, for_range (lo := 0) (n := ((hh : Nat) : Int).toNat) (fun i σ H' => Same H H' ∧ ∃ (p : Nat) (vy vl vp vf : Option V),
        σ = [some (.ref a), some (.int ((wd : Nat) : Int)), some (.int ((hh : Nat) : Int)), some (.int ((p : Nat) : Int)), vy, vl, vp, vf] ∧ p ≤ bs.length ∧ runsF bs wd hh = faultOf (CeSheet.rowsIn wd (hh - i) p (bs.drop p)))
      ⟨Same.refl H, 8, none, none, none, none, rfl, h8, rfl⟩ ?_ ?_⟩
    · rintro i σ H' hi ⟨s1, p, vy, vl, vp, vf, rfl, hp, he⟩
      rw [Int.toNat_natCast] at hi
      have ei : hh - i = (hh - (i + 1)) + 1 := by omega
      rw [ei, rows_succ] at he
      refine ⟨_, rfl, ?_⟩
      refine while_by (fun σ H' => Same H H' ∧ ∃ (p l : Nat) (last : Option UInt8) (vy vf : Option V),
          σ = [some (.ref a), some (.int ((wd : Nat) : Int)), some (.int ((hh : Nat) : Int)), some (.int ((p : Nat) : Int)), vy, some (.int ((l : Nat) : Int)), some (lastV last), vf] ∧ p ≤ bs.length ∧
          runsF bs wd hh = contF wd (hh - (i + 1)) (CeSheet.rowIn l last p (bs.drop p))) (fun σ _ => leftOf σ)
        ⟨s1, p, wd, none, _, _, rfl, hp, he⟩ ?_ ?_
      · rintro σ H' ⟨s1, p, l, last, vy, vf, rfl, hp, he⟩
        refine ⟨_, rfl, _, _, rfl, rfl, _, rfl, ?_⟩
        refine ite2 (fun c => ?_) (fun c => ?_)
        · obtain ⟨l', rfl⟩ : ∃ l', l = l' + 1 := ⟨l - 1, by have := of_decide_eq_true c; omega⟩
          obtain ⟨hF, hN⟩ := contF_step (w := wd) (k := hh - (i + 1)) (left := l') (last := last) hp
          refine ⟨_, rfl, _, rfl, _, rfl, _, rfl, a, bs, p, l' + 1, last, rfl, s1.seq hS, hp, ?_⟩
          cases e : runF bs p (l' + 1) last with
          | some e0 =>
            intro H2 t s2 ht
            refine ⟨_, rfl, rfl, _, rfl, ?_⟩
            rw [notNone_ref]
            refine iteT ⟨_, rfl, ?_⟩
            exact k.yes (he.trans (hF e0 e)) (s1.trans s2) ht
          | none =>
            intro H2 s2
            obtain ⟨n, q, hn, hq, hp2, hnl, hc⟩ := hN e
            have s3 := s1.trans s2
            refine ⟨_, rfl, rfl, _, rfl, ?_⟩
            rw [notNone_non]
            refine iteF ?_
            refine ⟨_, rfl, _, rfl, _, rfl, a, bs, p, n, rfl, s3.seq hS, hn, _, _, rfl, rfl, ?_⟩
            refine ⟨_, rfl, _, rfl, a, bs, p, q, rfl, s3.seq hS, hq, ?_⟩
            refine ⟨_, rfl, _, _, rfl, rfl, ?_⟩
            have e5 : ((l' + 1 : Nat) : Int) - (((n.toNat : Nat) : Int) + 1) = ((l' - n.toNat : Nat) : Int) := by omega
            have e3 : ((p : Nat) : Int) + 2 = ((p + 2 : Nat) : Int) := by omega
            refine ⟨⟨s3, p + 2, l' - n.toNat, some q, vy, some V.non, ?_, hp2, he.trans hc⟩, ?_⟩
            · rw [← e5, ← e3]
              rfl
            · show ((((l' + 1 : Nat) : Int) - (((n.toNat : Nat) : Int) + 1))).toNat < (((l' + 1 : Nat) : Int)).toNat
              omega
        · have l0 : l = 0 := by
            have : ¬ (0 : Int) < ((l : Nat) : Int) := fun z => c (decide_eq_true z)
            omega
          subst l0
          rw [contF_zero] at he
          exact ⟨s1, p, _, _, _, _, rfl, hp, he⟩
      · rintro σ H' Q0 Q1 hq ⟨v, hv, i0, j0, hx, hy, z, hz, q0⟩
        exact ⟨v, hv, i0, j0, hx, hy, z, hz, hq _ _ q0⟩
    · rintro σ H' ⟨s1, p, vy, vl, vp, vf, rfl, hp, he⟩
      rw [Int.toNat_natCast, Nat.sub_self, rows_zero hp] at he
      refine ⟨_, rfl, _, rfl, a, _, rfl, .inl (s1.seq hS), _, _, rfl, rfl, _, rfl, ?_⟩
      rw [vb_length]
      refine ite2 (fun c => ?_) (fun c => ?_)
      · have c1 : p < bs.length := by
          have := of_decide_eq_true c
          omega
        rw [if_pos c1] at he
        exact ⟨_, rfl, (by show 2 ≤ sizeLine; decide), fun t ht => k.new he s1 ht⟩
      · have c1 : ¬ p < bs.length := fun z => c (decide_eq_true (by omega))
        rw [if_neg c1] at he
        exact k.no he s1
theorem scFirst : FnScope ["b", "fault"] ["b"] (defScope s_first_fault) := ⟨rfl, rfl, rfl, by decide +kernel, rfl, by decide +kernel, by decide +kernel⟩
theorem headF_high {bs : List UInt8} (h : headF bs = none) : CeSheet.num2 bs 6 ≤ 256 := by
  unfold headF at h
  split at h
  · cases h
  · split at h
    · cases h
    · split at h
      · cases h
      · rename_i c
        have : ¬ 256 < CeSheet.num2 bs 6 := fun z => c (.inr z)
        omega
/-- all the defs that judging a list of bytes runs -/
structure DefsJ (K : PySem.W.Frag) (mg : Str → Option Value) : Prop where
  first : Df K mg "first_fault" s_first_fault ["b"]
  head : Df K mg "head_fault" s_head_fault ["b"]
  runs : Df K mg "runs_fault" s_runs_fault ["b", "w", "h"]
  run : Df K mg "run_fault" s_run_fault ["b", "place", "left", "paint_before"]
  length : Df K mg "run_length" s_run_length ["b", "place"]
  paint : Df K mg "run_paint" s_run_paint ["b", "place"]
  two : Df K mg "two_bytes" s_two_bytes ["b", "place"]
  side : Df K mg "is_side" s_is_side ["n"]
theorem ok_first_fault (T : TxtJ K mg) (J : DefsJ K mg) : Ok P w K mg base 4 "first_fault" ["b"] (spFirst K) := by
  have C0 : Ok P w K mg base 3 "runs_fault" ["b", "w", "h"] (spRuns K) := ok_runs_fault J.runs T J.run J.length J.paint
  have C1 : Ok P w K mg base 2 "head_fault" ["b"] (spHead K) := ok_head_fault J.head T J.two J.side
  have C2 : Ok P w K mg base 1 "two_bytes" ["b", "place"] (spTwo K) := ok_two_bytes J.two
  obtain ⟨f, fd, F, hm, hb⟩ := J.first
  refine ⟨f, fd, F.ok scFirst (fun vs H Q E h => ?_) (fun cdv A outer s H vs Q E hr h => ?_), hm, F.kp, hb⟩
  · obtain ⟨a, bs, rfl, _⟩ := h
    rfl
  · obtain ⟨a, bs, rfl, hS, k⟩ := h
    have hr1 : Room 1 _ := hr.mono (by decide)
    have hr2 : Room 2 _ := hr.mono (by decide)
    refine ⟨_, pss_cons (ps_set (i := 1) scFirst.nd rfl (Or.inl rfl) (pe_ok C1 hr2 rfl (pa_cons (pv 0) pa_nil)))
      (pss_cons (ps_if (pt_cmpR op_notN (pv 1) pe_non (nomark _)) (pss_one (ps_ret (pv 1))) pss_nil)
      (pss_one (ps_ret (pe_ok C0 hr rfl (pa_cons (pv 0) (pa_cons (pe_ok C2 hr1 rfl (pa_cons (pv 0) (pa_cons (pe_cn T.cW rfl) pa_nil))) (pa_cons (pe_ok C2 hr1 rfl (pa_cons (pv 0) (pa_cons (pe_cn T.cH rfl) pa_nil))) pa_nil))))))), ?_⟩
    have hj := judgeF_eq bs
    refine ⟨_, rfl, a, bs, rfl, hS, ?_⟩
    cases e : headF bs with
    | some e0 =>
      rw [e] at hj
      intro H2 t s2 ht
      refine ⟨_, rfl, rfl, _, rfl, ?_⟩
      rw [notNone_ref]
      exact iteT ⟨_, rfl, k.yes hj s2 ht⟩
    | none =>
      rw [e] at hj
      intro H2 s2
      have h8 := headF_len e
      refine ⟨_, rfl, rfl, _, rfl, ?_⟩
      rw [notNone_non]
      refine iteF ?_
      refine ⟨_, rfl, _, rfl, a, bs, 4, rfl, s2.seq hS, by omega, _, rfl, a, bs, 6, rfl, s2.seq hS, by omega, a, bs, _, _, rfl, s2.seq hS, h8, headF_high e, ?_⟩
      cases e2 : runsF bs (CeSheet.num2 bs 4) (CeSheet.num2 bs 6) with
      | some e0 => exact fun H3 t s3 ht => k.yes (hj.trans e2) (s2.trans s3) ht
      | none => exact fun H3 s3 => k.no (hj.trans e2) (s2.trans s3)
theorem scJudge : FnScope ["b", "fault"] ["b"] (defScope s_judge) := ⟨rfl, rfl, rfl, by decide +kernel, rfl, by decide +kernel, by decide +kernel⟩
theorem ok_judge {f : Addr} {fd : FuncData} (F : Fun K "judge" "judge" s_judge f fd) (T : TxtJ K mg) (J : DefsJ K mg) : FnOk P w K mg base CX0 5 f fd ["b"] (spJudge K) := by
  have C0 : Ok P w K mg base 4 "first_fault" ["b"] (spFirst K) := ok_first_fault T J
  refine F.ok scJudge (fun vs H Q E h => ?_) (fun cdv A outer s H vs Q E hr h => ?_)
  · obtain ⟨a, bs, rfl, _⟩ := h
    rfl
  · obtain ⟨a, bs, rfl, hS, hlen, k⟩ := h
    refine ⟨_, pss_cons (ps_if (pt_cmpR op_gt (pe_callB call_len_seq (by rfl) T.len PySem.boot_len (pa_cons (pv 0) pa_nil)) (pe_cn T.cM rfl) (nomark _)) (pss_one (ps_ret (pe_lst (pa_cons (pe_un un_neg pe_int) pa_nil)))) pss_nil)
      (pss_cons (ps_set (i := 1) scJudge.nd rfl (Or.inl rfl) (pe_ok C0 hr rfl (pa_cons (pv 0) pa_nil)))
      (pss_cons (ps_if (pt_cmpR op_isN (pv 1) pe_non (nomark _)) (pss_one (ps_ret (pe_lst (pa_cons pe_int pa_nil)))) pss_nil)
      (pss_one (ps_ret (pe_lst (pa_cons (pe_un un_neg pe_int) (pa_cons (pe_ix ix_tup (pv 1) pe_int (fun _ _ => rfl)) (pa_cons (pe_ix ix_tup (pv 1) pe_int (fun _ _ => rfl)) pa_nil)))))))), ?_⟩
    refine ⟨_, rfl, a, _, rfl, .inl hS, _, _, rfl, rfl, _, rfl, ?_⟩
    rw [vb_length, decide_eq_false (by omega)]
    refine iteF ?_
    refine ⟨_, rfl, a, bs, rfl, hS, ?_⟩
    unfold judgeL at k
    cases e : judgeF bs with
    | some e0 =>
      rw [e] at k
      intro H2 t s2 ht
      refine ⟨_, rfl, rfl, _, rfl, ?_⟩
      rw [decide_eq_false (by intro z; cases z)]
      refine iteF ?_
      refine ⟨_, rfl, _, rfl, t, _, _, _, rfl, rfl, SqT.of ht, rfl, _, rfl, t, _, _, _, rfl, rfl, SqT.of ht, rfl, (by show 3 ≤ sizeLine; decide), fun p hp => ?_⟩
      exact k _ p (s2.trans (same_new hp)) upd_same
    | none =>
      rw [e] at k
      intro H2 s2
      refine ⟨_, rfl, rfl, _, rfl, ?_⟩
      rw [decide_eq_true rfl]
      exact iteT ⟨by decide, fun p hp => k _ p (s2.trans (same_new hp)) upd_same⟩
end
end My

namespace My
open PySem PySem.Spec PyProof.Rows L2
open PySem.W (Codec)
theorem all_mk {P : Program} {w : World} {K : PySem.W.Frag} {h : Heap} {mg : Str → Option Value} {fa f1 f2 f3 f4 f5 f6 f7 f8 f9 : Addr} (X : K.In h) (G : h.Ns mainGlobals mg) (hfa : mg "judge" = some (.ref fa))
    {od1 an1 od2 an2 od3 an3 od4 an4 od5 an5 od6 an6 od7 an7 od8 an8 od9 an9 : Option Addr} {sl1 sl2 sl3 sl4 sl5 sl6 sl7 sl8 sl9 : Array (Option Value)} {oc1 kV1 dc1 pm1 cd1 ct1 oc2 kV2 dc2 pm2 cd2 ct2 oc3 kV3 dc3 pm3 cd3 ct3 oc4 kV4 dc4 pm4 cd4 ct4 oc5 kV5 dc5 pm5 cd5 ct5 oc6 kV6 dc6 pm6 cd6 ct6 oc7 kV7 dc7 pm7 cd7 ct7 oc8 kV8 dc8 pm8 cd8 ct8 oc9 kV9 dc9 pm9 cd9 ct9 : Value}
    (a1 : PySem.W.nsIn K mainGlobals "judge" = some (some (.ref f1))) (l1 : K.lookup f1 = some ⟨oc1, od1, .func (PySem.W.fnOf "judge" "judge" (defArgs s_judge) (defBody s_judge) (defScope s_judge) .none kV1 dc1 pm1 an1 cd1 ct1), sl1⟩) (c1 : PySem.W.codeIn K cd1 "judge" = true) (k1 : PySem.W.keepIn K (.ref f1) = true)
    (a2 : PySem.W.nsIn K mainGlobals "first_fault" = some (some (.ref f2))) (l2 : K.lookup f2 = some ⟨oc2, od2, .func (PySem.W.fnOf "first_fault" "first_fault" (defArgs s_first_fault) (defBody s_first_fault) (defScope s_first_fault) .none kV2 dc2 pm2 an2 cd2 ct2), sl2⟩) (c2 : PySem.W.codeIn K cd2 "first_fault" = true) (k2 : PySem.W.keepIn K (.ref f2) = true)
    (a3 : PySem.W.nsIn K mainGlobals "head_fault" = some (some (.ref f3))) (l3 : K.lookup f3 = some ⟨oc3, od3, .func (PySem.W.fnOf "head_fault" "head_fault" (defArgs s_head_fault) (defBody s_head_fault) (defScope s_head_fault) .none kV3 dc3 pm3 an3 cd3 ct3), sl3⟩) (c3 : PySem.W.codeIn K cd3 "head_fault" = true) (k3 : PySem.W.keepIn K (.ref f3) = true)
    (a4 : PySem.W.nsIn K mainGlobals "runs_fault" = some (some (.ref f4))) (l4 : K.lookup f4 = some ⟨oc4, od4, .func (PySem.W.fnOf "runs_fault" "runs_fault" (defArgs s_runs_fault) (defBody s_runs_fault) (defScope s_runs_fault) .none kV4 dc4 pm4 an4 cd4 ct4), sl4⟩) (c4 : PySem.W.codeIn K cd4 "runs_fault" = true) (k4 : PySem.W.keepIn K (.ref f4) = true)
    (a5 : PySem.W.nsIn K mainGlobals "run_fault" = some (some (.ref f5))) (l5 : K.lookup f5 = some ⟨oc5, od5, .func (PySem.W.fnOf "run_fault" "run_fault" (defArgs s_run_fault) (defBody s_run_fault) (defScope s_run_fault) .none kV5 dc5 pm5 an5 cd5 ct5), sl5⟩) (c5 : PySem.W.codeIn K cd5 "run_fault" = true) (k5 : PySem.W.keepIn K (.ref f5) = true)
    (a6 : PySem.W.nsIn K mainGlobals "run_length" = some (some (.ref f6))) (l6 : K.lookup f6 = some ⟨oc6, od6, .func (PySem.W.fnOf "run_length" "run_length" (defArgs s_run_length) (defBody s_run_length) (defScope s_run_length) .none kV6 dc6 pm6 an6 cd6 ct6), sl6⟩) (c6 : PySem.W.codeIn K cd6 "run_length" = true) (k6 : PySem.W.keepIn K (.ref f6) = true)
    (a7 : PySem.W.nsIn K mainGlobals "run_paint" = some (some (.ref f7))) (l7 : K.lookup f7 = some ⟨oc7, od7, .func (PySem.W.fnOf "run_paint" "run_paint" (defArgs s_run_paint) (defBody s_run_paint) (defScope s_run_paint) .none kV7 dc7 pm7 an7 cd7 ct7), sl7⟩) (c7 : PySem.W.codeIn K cd7 "run_paint" = true) (k7 : PySem.W.keepIn K (.ref f7) = true)
    (a8 : PySem.W.nsIn K mainGlobals "two_bytes" = some (some (.ref f8))) (l8 : K.lookup f8 = some ⟨oc8, od8, .func (PySem.W.fnOf "two_bytes" "two_bytes" (defArgs s_two_bytes) (defBody s_two_bytes) (defScope s_two_bytes) .none kV8 dc8 pm8 an8 cd8 ct8), sl8⟩) (c8 : PySem.W.codeIn K cd8 "two_bytes" = true) (k8 : PySem.W.keepIn K (.ref f8) = true)
    (a9 : PySem.W.nsIn K mainGlobals "is_side" = some (some (.ref f9))) (l9 : K.lookup f9 = some ⟨oc9, od9, .func (PySem.W.fnOf "is_side" "is_side" (defArgs s_is_side) (defBody s_is_side) (defScope s_is_side) .none kV9 dc9 pm9 an9 cd9 ct9), sl9⟩) (c9 : PySem.W.codeIn K cd9 "is_side" = true) (k9 : PySem.W.keepIn K (.ref f9) = true)
    {a_MARK : Addr} {t_MARK0 t_MARK1 t_MARK2 t_MARK3 : Tok} {o_MARK : Option Addr} {z_MARK : Nat} {y_MARK : Array (Option Value)} (n_MARK : PySem.W.nsIn K mainGlobals "MARK" = some (some (.ref a_MARK))) (m_MARK : K.lookup a_MARK = some ⟨.type "tuple", o_MARK, .seq #[.int 67 t_MARK0, .int 69 t_MARK1, .int 76 t_MARK2, .int 49 t_MARK3] z_MARK, y_MARK⟩)
    {t_W_PLACE : Tok} (n_W_PLACE : PySem.W.nsIn K mainGlobals "W_PLACE" = some (some (.int 4 t_W_PLACE)))
    {t_H_PLACE : Tok} (n_H_PLACE : PySem.W.nsIn K mainGlobals "H_PLACE" = some (some (.int 6 t_H_PLACE)))
    {t_RUNS_PLACE : Tok} (n_RUNS_PLACE : PySem.W.nsIn K mainGlobals "RUNS_PLACE" = some (some (.int 8 t_RUNS_PLACE)))
    {t_LARGEST_SIDE : Tok} (n_LARGEST_SIDE : PySem.W.nsIn K mainGlobals "LARGEST_SIDE" = some (some (.int 256 t_LARGEST_SIDE)))
    {t_MOST_BYTES : Tok} (n_MOST_BYTES : PySem.W.nsIn K mainGlobals "MOST_BYTES" = some (some (.int 131080 t_MOST_BYTES)))
    (z_len : PySem.W.nsIn K mainGlobals "len" = some none)
    (z_range : PySem.W.nsIn K mainGlobals "range" = some none)
    (z_list : PySem.W.nsIn K mainGlobals "list" = some none) :
    ∃ fd : FuncData, (∀ (s : Shared) (us : List Value), us.length = (["b"] : List Str).length → BindsTo s fd ⟨us, []⟩ ((["b"] : List Str).zip us)) ∧ ∀ base : Heap, K.In base → base.Ns mainGlobals mg → FnOk P w K mg base CX0 5 fa fd ["b"] (spJudge K) := by
  have e := hfa.symm.trans (PySem.W.mg_of X G a1)
  cases e
  have F1 := fun_mk (st := s_judge) l1 c1 k1
  have F2 := fun_mk (st := s_first_fault) l2 c2 k2
  have b2 := F2.binds (ps := ["b"]) fun _ _ _ _ _ _ us hl => match us, hl with | [_], _ => rfl
  have D_first_fault : Df K mg "first_fault" s_first_fault ["b"] := ⟨_, _, F2, PySem.W.mg_of X G a2, b2⟩
  have F3 := fun_mk (st := s_head_fault) l3 c3 k3
  have b3 := F3.binds (ps := ["b"]) fun _ _ _ _ _ _ us hl => match us, hl with | [_], _ => rfl
  have D_head_fault : Df K mg "head_fault" s_head_fault ["b"] := ⟨_, _, F3, PySem.W.mg_of X G a3, b3⟩
  have F4 := fun_mk (st := s_runs_fault) l4 c4 k4
  have b4 := F4.binds (ps := ["b", "w", "h"]) fun _ _ _ _ _ _ us hl => match us, hl with | [_, _, _], _ => rfl
  have D_runs_fault : Df K mg "runs_fault" s_runs_fault ["b", "w", "h"] := ⟨_, _, F4, PySem.W.mg_of X G a4, b4⟩
  have F5 := fun_mk (st := s_run_fault) l5 c5 k5
  have b5 := F5.binds (ps := ["b", "place", "left", "paint_before"]) fun _ _ _ _ _ _ us hl => match us, hl with | [_, _, _, _], _ => rfl
  have D_run_fault : Df K mg "run_fault" s_run_fault ["b", "place", "left", "paint_before"] := ⟨_, _, F5, PySem.W.mg_of X G a5, b5⟩
  have F6 := fun_mk (st := s_run_length) l6 c6 k6
  have b6 := F6.binds (ps := ["b", "place"]) fun _ _ _ _ _ _ us hl => match us, hl with | [_, _], _ => rfl
  have D_run_length : Df K mg "run_length" s_run_length ["b", "place"] := ⟨_, _, F6, PySem.W.mg_of X G a6, b6⟩
  have F7 := fun_mk (st := s_run_paint) l7 c7 k7
  have b7 := F7.binds (ps := ["b", "place"]) fun _ _ _ _ _ _ us hl => match us, hl with | [_, _], _ => rfl
  have D_run_paint : Df K mg "run_paint" s_run_paint ["b", "place"] := ⟨_, _, F7, PySem.W.mg_of X G a7, b7⟩
  have F8 := fun_mk (st := s_two_bytes) l8 c8 k8
  have b8 := F8.binds (ps := ["b", "place"]) fun _ _ _ _ _ _ us hl => match us, hl with | [_, _], _ => rfl
  have D_two_bytes : Df K mg "two_bytes" s_two_bytes ["b", "place"] := ⟨_, _, F8, PySem.W.mg_of X G a8, b8⟩
  have F9 := fun_mk (st := s_is_side) l9 c9 k9
  have b9 := F9.binds (ps := ["n"]) fun _ _ _ _ _ _ us hl => match us, hl with | [_], _ => rfl
  have D_is_side : Df K mg "is_side" s_is_side ["n"] := ⟨_, _, F9, PySem.W.mg_of X G a9, b9⟩
  have N_MARK : ∃ a, mg "MARK" = some (.ref a) ∧ ∀ H, SqT K H a ([67, 69, 76, 49].map V.int) := ⟨_, PySem.W.mg_of X G n_MARK, fun H => .inr ⟨_, _, _, m_MARK, rfl, rfl, by show 4 ≤ sizeLine; decide, .cons ⟨_, rfl⟩ (.cons ⟨_, rfl⟩ (.cons ⟨_, rfl⟩ (.cons ⟨_, rfl⟩ (.nil))))⟩⟩
  have N_W_PLACE : Cn mg "W_PLACE" 4 := ⟨_, PySem.W.mg_of X G n_W_PLACE⟩
  have N_H_PLACE : Cn mg "H_PLACE" 6 := ⟨_, PySem.W.mg_of X G n_H_PLACE⟩
  have N_RUNS_PLACE : Cn mg "RUNS_PLACE" 8 := ⟨_, PySem.W.mg_of X G n_RUNS_PLACE⟩
  have N_LARGEST_SIDE : Cn mg "LARGEST_SIDE" 256 := ⟨_, PySem.W.mg_of X G n_LARGEST_SIDE⟩
  have N_MOST_BYTES : Cn mg "MOST_BYTES" 131080 := ⟨_, PySem.W.mg_of X G n_MOST_BYTES⟩
  have Z_len : mg "len" = none := PySem.W.mg_none_of X G z_len
  have Z_range : mg "range" = none := PySem.W.mg_none_of X G z_range
  have Z_list : mg "list" = none := PySem.W.mg_none_of X G z_list
  exact ⟨_, fun s us hu => match us, hu with | [_], _ => .of_eq rfl, fun base _ _ => ok_judge F1 ⟨Z_len, Z_range, Z_list, N_W_PLACE, N_H_PLACE, N_RUNS_PLACE, N_LARGEST_SIDE, N_MOST_BYTES, N_MARK⟩ ⟨D_first_fault, D_head_fault, D_runs_fault, D_run_fault, D_run_length, D_run_paint, D_two_bytes, D_is_side⟩⟩
end My
open PySem PySem.W PyProof.Rows
set_option maxRecDepth 100000 in
set_option maxHeartbeats 8000000 in
theorem PySem.Challenge.cw_paintsheets_s01_judge_holds : PySem.Challenge.rw_paintsheets_s01_judge.Holds := by
  w_on; k_headS; (case hw => exact ⟨[.list []], by decide +kernel, by decide +kernel⟩)
  k_fillS
  refine L2.walk_specK (r := PySem.Challenge.rw_paintsheets_s01_judge) (k := 5) (CX := L2.CX0) (ps := ["b"]) (sp := My.spJudge) (by decide +kernel) rfl rfl ⟨rfl, by decide, by decide⟩ (fun w h Y => PySem.W.kIn_of Y) ?F ?S (fun _ _ _ _ z => z)
  case F =>
    intro w mg fa h Y KX G hmg
    refine' My.all_mk KX G hmg ?a1 ?l1 ?c1 ?k1 ?a2 ?l2 ?c2 ?k2 ?a3 ?l3 ?c3 ?k3 ?a4 ?l4 ?c4 ?k4 ?a5 ?l5 ?c5 ?k5 ?a6 ?l6 ?c6 ?k6 ?a7 ?l7 ?c7 ?k7 ?a8 ?l8 ?c8 ?k8 ?a9 ?l9 ?c9 ?k9 ?n_MARK ?m_MARK ?n_W_PLACE ?n_H_PLACE ?n_RUNS_PLACE ?n_LARGEST_SIDE ?n_MOST_BYTES ?z_len ?z_range ?z_list
    (case a1 => k_is)
    (case l1 => k_is)
    (case c1 => k_is)
    (case k1 => k_is)
    (case a2 => k_is)
    (case l2 => k_is)
    (case c2 => k_is)
    (case k2 => k_is)
    (case a3 => k_is)
    (case l3 => k_is)
    (case c3 => k_is)
    (case k3 => k_is)
    (case a4 => k_is)
    (case l4 => k_is)
    (case c4 => k_is)
    (case k4 => k_is)
    (case a5 => k_is)
    (case l5 => k_is)
    (case c5 => k_is)
    (case k5 => k_is)
    (case a6 => k_is)
    (case l6 => k_is)
    (case c6 => k_is)
    (case k6 => k_is)
    (case a7 => k_is)
    (case l7 => k_is)
    (case c7 => k_is)
    (case k7 => k_is)
    (case a8 => k_is)
    (case l8 => k_is)
    (case c8 => k_is)
    (case k8 => k_is)
    (case a9 => k_is)
    (case l9 => k_is)
    (case c9 => k_is)
    (case k9 => k_is)
    (case n_MARK => k_is)
    (case m_MARK => k_is)
    (case n_W_PLACE => k_is)
    (case n_H_PLACE => k_is)
    (case n_RUNS_PLACE => k_is)
    (case n_LARGEST_SIDE => k_is)
    (case n_MOST_BYTES => k_is)
    (case z_len => k_is)
    (case z_range => k_is)
    (case z_list => k_is)
  case S =>
    intro K H xs a hO hwi hask hx
    cases hx with
    | cons h1 h2 =>
      cases h2
      cases h1 with
      | lst hs ha =>
        have e := L2.ints_dw a.1 _ ha
        subst e
        have q : ((Codec.inLen 0 6144 a.1 && a.1.all (Codec.inInt 0 255)) && true) = true := hwi
        rw [Bool.and_eq_true, Bool.and_eq_true] at q
        obtain ⟨ns, u⟩ := a
        have hlen : ns.length ≤ 6144 := (Codec.inNat_iff.mp q.1.1).2
        have hall : ∀ x ∈ ns, 0 ≤ x ∧ x ≤ 255 := fun x hxm => My.inInt_of (List.all_eq_true.mp q.1.2 x hxm)
        obtain ⟨bs, rfl⟩ := My.exists_bytes ns hall
        rw [My.bints_length] at hlen
        refine ⟨_, bs, rfl, hs, by omega, fun H' p _ hp => ?_⟩
        have e : PyWqasbp.judge (My.bints bs) = My.judgeL bs := My.judge_due (by omega)
        show L2.Dw K H' (.ref p) (WData.list ((PyWqasbp.judge (My.bints bs)).map WData.int))
        rw [e]
        exact .lst (L2.SqL.of hp) (L2.dw_ints _)
#print axioms PySem.Challenge.cw_paintsheets_s01_judge_holds
