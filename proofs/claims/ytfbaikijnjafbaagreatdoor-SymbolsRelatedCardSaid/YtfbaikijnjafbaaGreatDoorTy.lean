/- Programs of package api as they lie in memory: types, trees, classes, methods, fields, parameters, members; that an argument that can be read is one. Plain lemmas, no condition. -/
import Derived.Test.YtfbaikijnjafbaaGreatDoorRd
import Derived.WalkKit
import Derived.WalkSpells
import Derived.WalkLawsBesides
import Derived.WalkSmall
import Derived.Lib.Hide
import Derived.Deep.LoopGhost
import Derived.Deep.DeepFit
import Derived.Deep.DeepCutAuto
namespace Go.Proofs.YtfbaikijnjafbaaGreatDoor
set_option linter.unusedSimpArgs false
set_option linter.unusedVariables false
open Go.RowKit

abbrev I (n : Int) : Value := .int .i64 n

/-- A slice with what it holds. -/
structure Sl (α : Type) where
  a : Option Addr
  cap : Nat
  l : List α
def Sl.v {α : Type} (s : Sl α) : Value := .slice s.a s.l.length s.cap

/-- Cells in a row. -/
def CellsIn (w : World) (b o : Nat) (vs : List Value) : Prop := ∀ j, j < vs.length → w.cell? ⟨b, o + j, none⟩ = vs[j]?

/-- The elements of a slice lie in a block that is permitted. -/
def SlAt {α : Type} (ok : Nat → Prop) (w : World) (stride bytes : Nat) (cells : α → List Value) (s : Sl α) : Prop :=
  s.l.length ≤ s.cap ∧ s.l.length * bytes ≤ 140737488355328 ∧ (s.l = [] ∨ ∃ b o, s.a = some ⟨b, o, none⟩ ∧ ok b ∧ ∀ i (h : i < s.l.length), CellsIn w b (o + i * stride) (cells s.l[i]))

/-- A type of package api. -/
inductive Ty where
  | mk (k s : Int) (nm : ByteArray) (n : Int) (args : Sl Ty)
def Ty.k : Ty → Int | .mk k _ _ _ _ => k
def Ty.s : Ty → Int | .mk _ s _ _ _ => s
def Ty.nm : Ty → ByteArray | .mk _ _ nm _ _ => nm
def Ty.n : Ty → Int | .mk _ _ _ n _ => n
def Ty.args : Ty → Sl Ty | .mk _ _ _ _ args => args
def Ty.cells (T : Ty) : List Value := [I T.k, I T.s, .string T.nm, I T.n, T.args.v]

def wf (i : Int) : Prop := (Lit.int .i64 i).wf = true

inductive TyL (ok : Nat → Prop) (w : World) : Ty → Prop
  | mk {T : Ty} (hf : wf T.k ∧ wf T.s ∧ T.nm.size ≤ reachBytes ∧ wf T.n) (ha : SlAt ok w 5 64 Ty.cells T.args) (hk : ∀ c ∈ T.args.l, TyL ok w c) : TyL ok w T

/-- A typed tree. -/
inductive Tre where
  | mk (k s n : Int) (tx : ByteArray) (ty : Ty) (tys : Sl Ty) (kids : Sl Tre) (p : Int)
def Tre.k : Tre → Int | .mk k _ _ _ _ _ _ _ => k
def Tre.s : Tre → Int | .mk _ s _ _ _ _ _ _ => s
def Tre.n : Tre → Int | .mk _ _ n _ _ _ _ _ => n
def Tre.tx : Tre → ByteArray | .mk _ _ _ tx _ _ _ _ => tx
def Tre.ty : Tre → Ty | .mk _ _ _ _ ty _ _ _ => ty
def Tre.tys : Tre → Sl Ty | .mk _ _ _ _ _ tys _ _ => tys
def Tre.kids : Tre → Sl Tre | .mk _ _ _ _ _ _ kids _ => kids
def Tre.p : Tre → Int | .mk _ _ _ _ _ _ _ p => p
def Tre.cells (T : Tre) : List Value :=
  [I T.k, I T.s, I T.n, .string T.tx, I T.ty.k, I T.ty.s, .string T.ty.nm, I T.ty.n, T.ty.args.v, T.tys.v, T.kids.v, I T.p]

inductive TreL (ok : Nat → Prop) (w : World) : Tre → Prop
  | mk {T : Tre} (hf : wf T.k ∧ wf T.s ∧ wf T.n ∧ T.tx.size ≤ reachBytes ∧ wf T.p ∧ T.tys.l.length * 64 ≤ reachBytes) (hy : TyL ok w T.ty) (ht : SlAt ok w 5 64 Ty.cells T.tys) (hu : ∀ c ∈ T.tys.l, TyL ok w c)
      (ha : SlAt ok w 12 160 Tre.cells T.kids) (hk : ∀ c ∈ T.kids.l, TreL ok w c) : TreL ok w T

def TysL (ok : Nat → Prop) (w : World) (s : Sl Ty) : Prop := SlAt ok w 5 64 Ty.cells s ∧ ∀ c ∈ s.l, TyL ok w c
def TresL (ok : Nat → Prop) (w : World) (s : Sl Tre) : Prop := SlAt ok w 12 160 Tre.cells s ∧ ∀ c ∈ s.l, TreL ok w c
def IntsL (ok : Nat → Prop) (w : World) (s : Sl Int) : Prop := SlAt ok w 1 8 (fun i => [I i]) s ∧ ∀ i ∈ s.l, wf i

structure Cls where
  nm : ByteArray
  kind : Int
  flags : Int
  owner : Int
  tps : Sl Int
  pars : Sl Ty
  prms : Sl Int
  flds : Sl Int
  mths : Sl Int
  tys : Sl Int
  sups : Sl Tre
  ini : Sl Tre
  p : Int
def Cls.cells (c : Cls) : List Value :=
  [.string c.nm, I c.kind, I c.flags, I c.owner, c.tps.v, c.pars.v, c.prms.v, c.flds.v, c.mths.v, c.tys.v, c.sups.v, c.ini.v, I c.p]
def ClsL (ok : Nat → Prop) (w : World) (c : Cls) : Prop :=
  c.nm.size ≤ reachBytes ∧ (wf c.kind ∧ wf c.flags ∧ wf c.owner ∧ wf c.p) ∧ (IntsL ok w c.tps ∧ IntsL ok w c.prms ∧ IntsL ok w c.flds ∧ IntsL ok w c.mths ∧ IntsL ok w c.tys) ∧ TysL ok w c.pars ∧ TresL ok w c.sups ∧ TresL ok w c.ini

structure Loc where
  nm : ByteArray
  flags : Int
  ty : Ty
def Loc.cells (c : Loc) : List Value := [.string c.nm, I c.flags, I c.ty.k, I c.ty.s, .string c.ty.nm, I c.ty.n, c.ty.args.v]
def LocL (ok : Nat → Prop) (w : World) (c : Loc) : Prop := c.nm.size ≤ reachBytes ∧ wf c.flags ∧ TyL ok w c.ty

structure Mth where
  nm : ByteArray
  owner : Int
  flags : Int
  tps : Sl Int
  params : Int
  locs : Sl Loc
  res : Ty
  body : Option (Addr × Tre)
  p : Int
def Mth.cells (c : Mth) : List Value :=
  [.string c.nm, I c.owner, I c.flags, c.tps.v, I c.params, c.locs.v, I c.res.k, I c.res.s, .string c.res.nm, I c.res.n, c.res.args.v, .pointer (c.body.map (·.1)), I c.p]
def BodyL (ok : Nat → Prop) (w : World) : Option (Addr × Tre) → Prop
  | none => True
  | some (a, T) => ∃ b o, a = ⟨b, o, none⟩ ∧ ok b ∧ CellsIn w b o T.cells ∧ TreL ok w T
def MthL (ok : Nat → Prop) (w : World) (c : Mth) : Prop :=
  c.nm.size ≤ reachBytes ∧ (wf c.owner ∧ wf c.flags ∧ wf c.params ∧ wf c.p) ∧ IntsL ok w c.tps ∧ (SlAt ok w 7 88 Loc.cells c.locs ∧ ∀ x ∈ c.locs.l, LocL ok w x) ∧ TyL ok w c.res ∧ BodyL ok w c.body

structure Fld where
  nm : ByteArray
  owner : Int
  flags : Int
  ty : Ty
  p : Int
def Fld.cells (c : Fld) : List Value := [.string c.nm, I c.owner, I c.flags, I c.ty.k, I c.ty.s, .string c.ty.nm, I c.ty.n, c.ty.args.v, I c.p]
def FldL (ok : Nat → Prop) (w : World) (c : Fld) : Prop := c.nm.size ≤ reachBytes ∧ (wf c.owner ∧ wf c.flags ∧ wf c.p) ∧ TyL ok w c.ty

structure Tpm where
  nm : ByteArray
  cls : Int
  mth : Int
  var : Int
  ar : Int
  lo : Ty
  hi : Ty
def Tpm.cells (c : Tpm) : List Value :=
  [.string c.nm, I c.cls, I c.mth, I c.var, I c.ar, I c.lo.k, I c.lo.s, .string c.lo.nm, I c.lo.n, c.lo.args.v, I c.hi.k, I c.hi.s, .string c.hi.nm, I c.hi.n, c.hi.args.v]
def TpmL (ok : Nat → Prop) (w : World) (c : Tpm) : Prop := c.nm.size ≤ reachBytes ∧ (wf c.cls ∧ wf c.mth ∧ wf c.var ∧ wf c.ar) ∧ TyL ok w c.lo ∧ TyL ok w c.hi

structure Tym where
  nm : ByteArray
  owner : Int
  ar : Int
  lo : Ty
  hi : Ty
def Tym.cells (c : Tym) : List Value :=
  [.string c.nm, I c.owner, I c.ar, I c.lo.k, I c.lo.s, .string c.lo.nm, I c.lo.n, c.lo.args.v, I c.hi.k, I c.hi.s, .string c.hi.nm, I c.hi.n, c.hi.args.v]
def TymL (ok : Nat → Prop) (w : World) (c : Tym) : Prop := c.nm.size ≤ reachBytes ∧ (wf c.owner ∧ wf c.ar) ∧ TyL ok w c.lo ∧ TyL ok w c.hi

structure Prg where
  cls : Sl Cls
  mth : Sl Mth
  fld : Sl Fld
  tpm : Sl Tpm
  tym : Sl Tym
  main : Int
def Prg.agg (p : Prg) : Value := .agg #[p.cls.v, p.mth.v, p.fld.v, p.tpm.v, p.tym.v, I p.main]
structure PrgL (ok : Nat → Prop) (w : World) (p : Prg) : Prop where
  cls : SlAt ok w 13 240 Cls.cells p.cls
  clsL : ∀ c ∈ p.cls.l, ClsL ok w c
  mth : SlAt ok w 13 168 Mth.cells p.mth
  mthL : ∀ c ∈ p.mth.l, MthL ok w c
  fld : SlAt ok w 9 104 Fld.cells p.fld
  fldL : ∀ c ∈ p.fld.l, FldL ok w c
  tpm : SlAt ok w 15 176 Tpm.cells p.tpm
  tpmL : ∀ c ∈ p.tpm.l, TpmL ok w c
  tym : SlAt ok w 13 160 Tym.cells p.tym
  tymL : ∀ c ∈ p.tym.l, TymL ok w c
  main : wf p.main

section
variable {ok : Nat → Prop} {w w' : World}
theorem CellsIn.same {b o : Nat} {vs : List Value} (h : CellsIn w b o vs) (hb : w'.heap[b]? = w.heap[b]?) : CellsIn w' b o vs :=
  fun j hj => (World.cell?_of_block (w := w) hb).trans (h j hj)
theorem SlAt.same {α : Type} {st by_ : Nat} {cells : α → List Value} {s : Sl α} (h : SlAt ok w st by_ cells s) (hb : ∀ k, ok k → w'.heap[k]? = w.heap[k]?) : SlAt ok w' st by_ cells s := by
  obtain ⟨h1, h2, h3⟩ := h
  refine ⟨h1, h2, ?_⟩
  rcases h3 with h3 | ⟨b, o, ha, hk, hc⟩
  · exact .inl h3
  · exact .inr ⟨b, o, ha, hk, fun i hi => (hc i hi).same (hb b hk)⟩
theorem TyL.same {T : Ty} (h : TyL ok w T) (hb : ∀ k, ok k → w'.heap[k]? = w.heap[k]?) : TyL ok w' T := by
  induction h with
  | mk hf ha _ ih => exact .mk hf (ha.same hb) ih
theorem TreL.same {T : Tre} (h : TreL ok w T) (hb : ∀ k, ok k → w'.heap[k]? = w.heap[k]?) : TreL ok w' T := by
  induction h with
  | mk hf hy ht hu ha _ ih => exact .mk hf (hy.same hb) (ht.same hb) (fun c hc => (hu c hc).same hb) (ha.same hb) ih
theorem TysL.same {s : Sl Ty} (h : TysL ok w s) (hb : ∀ k, ok k → w'.heap[k]? = w.heap[k]?) : TysL ok w' s := ⟨h.1.same hb, fun c hc => (h.2 c hc).same hb⟩
theorem TresL.same {s : Sl Tre} (h : TresL ok w s) (hb : ∀ k, ok k → w'.heap[k]? = w.heap[k]?) : TresL ok w' s := ⟨h.1.same hb, fun c hc => (h.2 c hc).same hb⟩
theorem IntsL.same {s : Sl Int} (h : IntsL ok w s) (hb : ∀ k, ok k → w'.heap[k]? = w.heap[k]?) : IntsL ok w' s := ⟨h.1.same hb, h.2⟩
theorem ClsL.same {c : Cls} (h : ClsL ok w c) (hb : ∀ k, ok k → w'.heap[k]? = w.heap[k]?) : ClsL ok w' c := by
  obtain ⟨h1, h2, ⟨a1, a2, a3, a4, a5⟩, b1, b2, b3⟩ := h
  exact ⟨h1, h2, ⟨a1.same hb, a2.same hb, a3.same hb, a4.same hb, a5.same hb⟩, b1.same hb, b2.same hb, b3.same hb⟩
theorem LocL.same {c : Loc} (h : LocL ok w c) (hb : ∀ k, ok k → w'.heap[k]? = w.heap[k]?) : LocL ok w' c := ⟨h.1, h.2.1, h.2.2.same hb⟩
theorem BodyL.same {x : Option (Addr × Tre)} (h : BodyL ok w x) (hb : ∀ k, ok k → w'.heap[k]? = w.heap[k]?) : BodyL ok w' x := by
  match x, h with
  | none, _ => trivial
  | some (a, T), ⟨b, o, h1, h2, h3, h4⟩ => exact ⟨b, o, h1, h2, h3.same (hb b h2), h4.same hb⟩
theorem MthL.same {c : Mth} (h : MthL ok w c) (hb : ∀ k, ok k → w'.heap[k]? = w.heap[k]?) : MthL ok w' c := by
  obtain ⟨h1, h2, h3, ⟨h4, h5⟩, h6, h7⟩ := h
  exact ⟨h1, h2, h3.same hb, ⟨h4.same hb, fun x hx => (h5 x hx).same hb⟩, h6.same hb, h7.same hb⟩
theorem FldL.same {c : Fld} (h : FldL ok w c) (hb : ∀ k, ok k → w'.heap[k]? = w.heap[k]?) : FldL ok w' c := ⟨h.1, h.2.1, h.2.2.same hb⟩
theorem TpmL.same {c : Tpm} (h : TpmL ok w c) (hb : ∀ k, ok k → w'.heap[k]? = w.heap[k]?) : TpmL ok w' c := ⟨h.1, h.2.1, h.2.2.1.same hb, h.2.2.2.same hb⟩
theorem TymL.same {c : Tym} (h : TymL ok w c) (hb : ∀ k, ok k → w'.heap[k]? = w.heap[k]?) : TymL ok w' c := ⟨h.1, h.2.1, h.2.2.1.same hb, h.2.2.2.same hb⟩
theorem PrgL.same {p : Prg} (h : PrgL ok w p) (hb : ∀ k, ok k → w'.heap[k]? = w.heap[k]?) : PrgL ok w' p :=
  ⟨h.cls.same hb, fun c hc => (h.clsL c hc).same hb, h.mth.same hb, fun c hc => (h.mthL c hc).same hb, h.fld.same hb, fun c hc => (h.fldL c hc).same hb,
    h.tpm.same hb, fun c hc => (h.tpmL c hc).same hb, h.tym.same hb, fun c hc => (h.tymL c hc).same hb, h.main⟩
theorem SlAt.imp {ok' : Nat → Prop} {α : Type} {st by_ : Nat} {cells : α → List Value} {s : Sl α} (h : SlAt ok w st by_ cells s) (hb : ∀ k, ok k → ok' k) : SlAt ok' w st by_ cells s := by
  obtain ⟨h1, h2, h3⟩ := h
  refine ⟨h1, h2, ?_⟩
  rcases h3 with h3 | ⟨b, o, ha, hk, hc⟩
  · exact .inl h3
  · exact .inr ⟨b, o, ha, hb b hk, hc⟩
theorem TyL.imp {ok' : Nat → Prop} {T : Ty} (h : TyL ok w T) (hb : ∀ k, ok k → ok' k) : TyL ok' w T := by
  induction h with
  | mk hf ha _ ih => exact .mk hf (ha.imp hb) ih
theorem TreL.imp {ok' : Nat → Prop} {T : Tre} (h : TreL ok w T) (hb : ∀ k, ok k → ok' k) : TreL ok' w T := by
  induction h with
  | mk hf hy ht hu ha _ ih => exact .mk hf (hy.imp hb) (ht.imp hb) (fun c hc => (hu c hc).imp hb) (ha.imp hb) ih
theorem TysL.imp {ok' : Nat → Prop} {s : Sl Ty} (h : TysL ok w s) (hb : ∀ k, ok k → ok' k) : TysL ok' w s := ⟨h.1.imp hb, fun c hc => (h.2 c hc).imp hb⟩
theorem TresL.imp {ok' : Nat → Prop} {s : Sl Tre} (h : TresL ok w s) (hb : ∀ k, ok k → ok' k) : TresL ok' w s := ⟨h.1.imp hb, fun c hc => (h.2 c hc).imp hb⟩
end
end Go.Proofs.YtfbaikijnjafbaaGreatDoor
