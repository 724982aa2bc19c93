"""Sheets of paint; the calls are in paintsheets.sheets."""
